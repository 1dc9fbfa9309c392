/- Bytes read as postings: the specification's UnpackPostings. No condition. -/
import Derived.Test.YtcnlmpdpimhcbaaUpS
namespace Go.Proofs.Ytcnlmpdpimhcbaa
open Go.RowKit
set_option linter.unusedVariables false

theorem eq_textsU (a b : ByteArray) : (a.toList == b.toList) = decide (a = b) := by
  by_cases h : a = b
  · simp [h]
  · have : ¬ a.toList = b.toList := fun e => h (by
      rw [ByteArray.toList_eq, ByteArray.toList_eq] at e
      apply ByteArray.ext
      exact Array.toList_inj.1 e)
    simp [h, this]
theorem parseL_step (f cnt : Nat) (last : Int) (l : List UInt8) (hf : l.length ≤ f) (hne : l ≠ []) : ∃ g, parseL f (cnt + 1) last l = (match tk3 l with
    | none => none
    | some (a, n) => match tk3 (l.drop n) with
      | none => none
      | some (m, k) => (parseL g cnt (last + a + 1) ((l.drop n).drop k)).map fun q => (last + a + 1, m) :: q) ∧ l.length ≤ g + 1 := by
  cases l with
  | nil => exact absurd rfl hne
  | cons b t =>
    cases f with
    | zero => simp at hf
    | succ g => exact ⟨g, by rw [parseL]; rfl, hf⟩

set_option maxRecDepth 100000 in
set_option maxHeartbeats 4000000 in
theorem specUnpackPostings_k (x0 : ByteArray) (w : World) (h0 : x0.size ≤ 2 ^ 20) :
    Calls Try.prog 20 #[.string x0] w (RUnpackPostings x0 w) := by
  obtain ⟨ls, hls⟩ : ∃ ls, ls = x0.data.toList := ⟨_, rfl⟩
  have hx : x0 = strL ls := by rw [hls, strL_data]
  obtain ⟨G, hG⟩ : ∃ G, G = parseL x0.size 201 (-1) ls := ⟨_, rfl⟩
  have HFN : Hid (G = none → fUnpackPostings x0 = ([], false)) := fun h => by rw [unpack_same, ← hls, ← hG, h]
  have HFS : Hid (∀ l, G = some l → fUnpackPostings x0 = if postOk 10001 (-1) l = true ∧ l.length ≤ 200 ∧ strOfNums (packN (-1) l) = x0 then (l, true) else ([], false)) := fun l h => by rw [unpack_same, ← hls, ← hG, h]
  have hlen : ls.length = x0.size := by rw [hls]; simp
  have hl20 : ls.length ≤ 2 ^ 20 := by omega
  have HG : Hid (G = parseL x0.size 201 (-1) ls) := hG
  have HLE : Hid (ls.length = x0.size) := hlen
  have HX : Hid (x0 = strL ls) := hx
  have hs0 : Calls Try.prog 20 #[.string (strL ls)] w (RUnpackPostings x0 w) → Calls Try.prog 20 #[.string x0] w (RUnpackPostings x0 w) := fun h => by
    have e : (Value.string x0) = .string (strL ls) := by rw [← hx]
    rw [e]
    exact h
  apply hs0
  clear hs0 hls hG hlen hx
  go_enter Try.func20, Try.ntmps20
  go_wp2_with fail
  go_loopw [4, 5, 6] (fun ov lv sv wr => ∃ (L : List DPosting) (last : Int) (r : List UInt8) (f : Nat), sv = .string (strL r) ∧ lv = .int .i64 last ∧ r.length ≤ f ∧ r.length ≤ 2 ^ 20 ∧ L.length ≤ 201 ∧ -1 ≤ last ∧ last ≤ 2097152 * (L.length : Int) ∧ Hid ((parseL f (201 - L.length) last r).map (fun q => L ++ q) = G) ∧ Hid (smallP L) ∧ Hid (OwnL poC 84 2 wr w.heap.size ov L) ∧ Below w.heap.size w wr) (fun _ _ sv _ => match sv with | .string s => s.size | _ => 0)
  case atStart => exact ⟨[], -1, ls, x0.size, rfl, rfl, by rw [HLE.out]; exact Nat.le_refl _, hl20, by simp, by omega, by simp, by show _ = _; rw [HG.out]; simp, fun x hx => by simp at hx, OwnL.nil _ _ _ _ _, Below.refl _ _⟩
  case round =>
    obtain ⟨L, last, r, f, rfl, rfl, hrf, hr20, hL, l0, l1, HI, HSM, HO, hnx⟩ := hrel
    obtain ⟨oa, oc, hov, _⟩ := HO.out.form
    subst hov
    obtain ⟨n, hn⟩ : ∃ n, n = L.length := ⟨_, rfl⟩
    have HN : Hid (n = L.length) := hn
    rw [← hn] at HO hL l1 ⊢
    clear hn
    have zw := hnx.size
    by_cases hend : r = [] ∨ n = 201
    · have HE : Hid (G = some L) := by
        have := HI.out
        rcases hend with h | h
        · rw [h, parseL.eq_def] at this
          simp at this
          exact this.symm
        · rw [show 201 - L.length = 0 by rw [← HN.out]; omega] at this
          cases r with
          | nil => rw [parseL.eq_def] at this; simp at this; exact this.symm
          | cons b t => rw [parseL.eq_def] at this; simp at this; exact this.symm
      have HK : Hid (∀ W, (kRow kPosting).is false W (fun k => w.heap.size ≤ k) [.slice oa n oc] L → Calls Try.prog 64 #[.slice oa n oc, .int .i64 10001] W fun e w' => e = .returned (.bool (postOk 10001 (-1) L)) ∧ Below W.heap.size W w') := fun W h => by
        have := l10List_k L oa n oc _ 10001 10000 W h (by rfl)
        rw [show (10000 : Int) = 10001 - 1 by rfl, postSp_ok] at this
        exact this
      have HEND : Hid (r = [] ∨ n = 201) := hend
      have HROW : Hid (∀ W, Below wr.heap.size wr W → (kRow kPosting).is true W (fun k => w.heap.size ≤ k) [.slice oa n oc] L) := fun W h => post_is (OwnL.below HO.out h) (by rw [← HN.out]; omega) HSM.out
      clear HI hend
      by_cases hre : r = []
      · have t0 : (strL r).toList.isEmpty = true := by rw [strL_empU, hre]; rfl
        clear hre
        go_wp2_with fail
        refine (HK.out _ (Kd.read _ (HROW.out _ (Below.refl _ _)))).mono ?_
        rintro e w1 ⟨rfl, hb1⟩
        have HB1 : Hid (Below w.heap.size w w1) := hnx.trans (hb1.mono zw)
        have HR1 : Hid ((kRow kPosting).is true w1 (fun k => w.heap.size ≤ k) [.slice oa n oc] L) := HROW.out _ hb1
        have hL2 := HFS.out L HE.out
        clear hb1
        cases ho : postOk 10001 (-1) L with
        | false =>
          have HR : Hid (fUnpackPostings x0 = ([], false)) := by rw [ho] at hL2; exact hL2
          clear ho hL2
          go_wp2
          refine bodyPost_ret (v := .tuple #[.slice none 0 0, .bool false]) (by simp [results, Try.results20, go_sem]) rfl ?_
          exact RUnpack_no HR.out HB1.out
        | true =>
          by_cases h200 : (200 : Int) < (n : Int)
          · have HR : Hid (fUnpackPostings x0 = ([], false)) := by rw [if_neg (by rw [← HN.out]; omega)] at hL2; exact hL2
            clear ho hL2
            go_wp2
            refine bodyPost_ret (v := .tuple #[.slice none 0 0, .bool false]) (by simp [results, Try.results20, go_sem]) rfl ?_
            exact RUnpack_no HR.out HB1.out
          · have HO2 : Hid (postOk 10001 (-1) L = true) := ho
            have HL2 : Hid _ := hL2
            clear ho hL2
            go_wp2_with fail
            refine (l10Pack_k L oa n oc _ _ (Kd.read _ HR1.out) HO2.out (by rw [← HN.out]; omega)).mono ?_
            rintro e w2 ⟨rfl, hb2⟩
            have HB2 : Hid (Below w.heap.size w w2) := HB1.out.trans (hb2.mono HB1.out.size)
            have HR2 : Hid ((kRow kPosting).is true w2 (fun k => w.heap.size ≤ k) [.slice oa n oc] L) := Kd.below HR1.out hb2
            clear hb2 HR1 HB1
            have het := eq_textsU (strOfNums (packN (-1) L)) (strL ls)
            by_cases hpk : strOfNums (packN (-1) L) = strL ls
            · rw [decide_eq_true hpk] at het
              have HR : Hid (fUnpackPostings x0 = (L, true)) := by have := HL2.out; rw [if_pos ⟨HO2.out, by rw [← HN.out]; omega, by rw [HX.out]; exact hpk⟩] at this; exact this
              obtain ⟨pk, hp⟩ : ∃ pk, pk = strOfNums (packN (-1) L) := ⟨_, rfl⟩
              rw [← hp] at het ⊢
              clear hpk hp
              go_wp2
              refine bodyPost_ret (v := .tuple #[.slice oa n oc, .bool true]) (by simp [results, Try.results20, go_sem]) rfl ?_
              unfold RUnpackPostings
              rw [HR.out]
              exact ⟨oa, n, oc, _, rfl, HR2.out, fun k hk => hk, by rw [cnt_posts]; show L.length * 2 ≤ _; rw [← HN.out]; omega, HB2.out⟩
            · rw [decide_eq_false hpk] at het
              have HR : Hid (fUnpackPostings x0 = ([], false)) := by have := HL2.out; rw [if_neg (by rintro ⟨_, _, h⟩; rw [HX.out] at h; exact hpk h)] at this; exact this
              obtain ⟨pk, hp⟩ : ∃ pk, pk = strOfNums (packN (-1) L) := ⟨_, rfl⟩
              rw [← hp] at het ⊢
              clear hpk hp
              go_wp2
              refine bodyPost_ret (v := .tuple #[.slice none 0 0, .bool false]) (by simp [results, Try.results20, go_sem]) rfl ?_
              exact RUnpack_no HR.out HB2.out
      · have t0 : (strL r).toList.isEmpty = false := by rw [strL_empU]; simpa using hre
        have h201 : ¬ (n : Int) ≤ 200 := by have := HEND.out; rcases this with h | h; exact absurd h hre; omega
        clear hre
        go_wp2_with fail
        refine (HK.out _ (Kd.read _ (HROW.out _ (Below.refl _ _)))).mono ?_
        rintro e w1 ⟨rfl, hb1⟩
        have HB1 : Hid (Below w.heap.size w w1) := hnx.trans (hb1.mono zw)
        have HR1 : Hid ((kRow kPosting).is true w1 (fun k => w.heap.size ≤ k) [.slice oa n oc] L) := HROW.out _ hb1
        have hL2 := HFS.out L HE.out
        clear hb1
        cases ho : postOk 10001 (-1) L with
        | false =>
          have HR : Hid (fUnpackPostings x0 = ([], false)) := by rw [ho] at hL2; exact hL2
          clear ho hL2
          go_wp2
          refine bodyPost_ret (v := .tuple #[.slice none 0 0, .bool false]) (by simp [results, Try.results20, go_sem]) rfl ?_
          exact RUnpack_no HR.out HB1.out
        | true =>
          by_cases h200 : (200 : Int) < (n : Int)
          · have HR : Hid (fUnpackPostings x0 = ([], false)) := by rw [if_neg (by rw [← HN.out]; omega)] at hL2; exact hL2
            clear ho hL2
            go_wp2
            refine bodyPost_ret (v := .tuple #[.slice none 0 0, .bool false]) (by simp [results, Try.results20, go_sem]) rfl ?_
            exact RUnpack_no HR.out HB1.out
          · exfalso
            omega
    · have hre : r ≠ [] := fun h => hend (.inl h)
      have hn2 : n ≤ 200 := by
        by_cases h : n = 201
        · exact absurd (.inr h) hend
        · omega
      have hn2' : (n : Int) ≤ 200 := by omega
      have t0 : (strL r).toList.isEmpty = false := by rw [strL_empU]; simpa using hre
      obtain ⟨g, hg1, hg2⟩ := parseL_step f (200 - L.length) last r hrf hre
      have HP : Hid _ := hg1
      have HI0 : Hid ((parseL f (200 - L.length + 1) last r).map (fun q => L ++ q) = G) := by have := HI.out; rw [show 201 - L.length = 200 - L.length + 1 by rw [← HN.out]; omega] at this; exact this
      clear hg1 hre hend HI
      go_wp2_with fail
      refine (l10Take_k r _ hr20).mono ?_
      rintro e w1 ⟨hq1, rfl⟩
      rcases hq1 with ⟨a, n1, hd, rfl⟩ | ⟨hd, rfl⟩
      · obtain ⟨a0, a1, a2, a3, a4⟩ := tk3_bounds hd
        have HP1 : Hid (parseL f (200 - L.length + 1) last r = match tk3 (r.drop n1) with
            | none => none
            | some (m, k) => (parseL g (200 - L.length) (last + a + 1) ((r.drop n1).drop k)).map fun q => (last + a + 1, m) :: q) := by
          have := HP.out
          rw [hd] at this
          exact this
        have hex := strL_ext r n1
        rw [strL_size] at hex
        have hsz : (strL r).size = r.length := strL_size r
        have q1 : (n1 : Int) ≤ (r.length : Int) := by omega
        have q0 : (0 : Int) ≤ (n1 : Int) := by omega
        clear hd HP
        go_wp2_with fail
        refine (l10Take_k (r.drop n1) _ (by rw [List.length_drop]; omega)).mono ?_
        rintro e w2 ⟨hq2, rfl⟩
        have p1 : ((n1 : Int) == 0) = false := by rw [beq_eq_false_iff_ne]; omega
        rcases hq2 with ⟨m, n2, hd2, rfl⟩ | ⟨hd2, rfl⟩
        · obtain ⟨m0, m1, m2, m3, m4⟩ := tk3_bounds hd2
          rw [List.length_drop] at m4
          have p2 : ((n2 : Int) == 0) = false := by rw [beq_eq_false_iff_ne]; omega
          have HI2 : Hid ((parseL g (201 - (L ++ [(last + a + 1, m)]).length) (last + a + 1) (r.drop (n1 + n2))).map (fun q => (L ++ [(last + a + 1, m)]) ++ q) = G) := by
            have h1 := HI0.out
            have h2 := HP1.out
            rw [hd2] at h2
            rw [h2, Option.map_map, List.drop_drop] at h1
            show _ = _
            rw [← h1, List.length_append, show 201 - (L.length + [(last + a + 1, m)].length) = 200 - L.length by simp <;> omega]
            congr 1
            funext q
            simp
          have HSM2 : Hid (smallP (L ++ [(last + a + 1, m)])) := HSM.out.snoc (by omega) (by omega) (by omega) (by omega)
          have hex2 := strL_ext r (n1 + n2)
          rw [strL_size] at hex2
          have q2 : (n1 : Int) + (n2 : Int) ≤ (r.length : Int) := by omega
          have q3 : (0 : Int) ≤ (n1 : Int) + (n2 : Int) := by omega
          have e1 : last + (a + 1) = last + a + 1 := by omega
          clear hd2 HP1 HI0 hex
          go_wp2_with (at_builtin; refine app_post rfl _ _ rfl w.heap.size _ L rfl (OwnL.below HO.out (below_a1' _ _)) _ (last + a + 1, m) rfl (cell_b1 _ _ _ _).1 (cell_b1 _ _ _ _).2 (by rw [← HN.out]; omega) (by simp; omega) ?_)
          intro v3 w3 ho3 hb3 hz3
          have HO3 : Hid (OwnL poC 84 2 w3 w.heap.size v3 (L ++ [(last + a + 1, m)])) := ho3
          have HB3 : Hid (Below w.heap.size w w3) := (hnx.alloc (by omega) _).trans hb3
          clear ho3 hb3 hz3
          go_wp2
          go_roundw
          case rel => exact ⟨L ++ [(last + a + 1, m)], last + a + 1, r.drop (n1 + n2), g, by rw [hex2], rfl, by rw [List.length_drop]; omega, by rw [List.length_drop]; omega, by rw [List.length_append, ← HN.out]; simp; omega, by omega, by rw [List.length_append, ← HN.out]; simp; omega, HI2, HSM2, HO3, HB3.out⟩
          case measure =>
            show ((strL r).extract (n1 + n2) r.length).size < (strL r).size
            rw [hex2, strL_size, strL_size, List.length_drop]
            omega
        · have HNO : Hid (fUnpackPostings x0 = ([], false)) := HFN.out (by have := HI0.out; rw [HP1.out, hd2] at this; exact this.symm)
          clear hd2 HI0 HP1
          go_wp2
          refine bodyPost_ret (v := .tuple #[.slice none 0 0, .bool false]) (by simp [results, Try.results20, go_sem]) rfl ?_
          exact RUnpack_no HNO.out hnx
      · have HNO : Hid (fUnpackPostings x0 = ([], false)) := HFN.out (by have := HI0.out; rw [HP.out, hd] at this; exact this.symm)
        have hex := strL_ext r 0
        have hsz : (strL r).size = r.length := strL_size r
        rw [List.drop_zero, strL_size] at hex
        clear hd HP HI0
        go_wp2_with fail
        refine (l10Take_k r _ hr20).mono ?_
        rintro e w2 ⟨hq2, rfl⟩
        rcases hq2 with ⟨m, n2, hd2, rfl⟩ | ⟨hd2, rfl⟩
        · go_wp2
          refine bodyPost_ret (v := .tuple #[.slice none 0 0, .bool false]) (by simp [results, Try.results20, go_sem]) rfl ?_
          exact RUnpack_no HNO.out hnx
        · go_wp2
          refine bodyPost_ret (v := .tuple #[.slice none 0 0, .bool false]) (by simp [results, Try.results20, go_sem]) rfl ?_
          exact RUnpack_no HNO.out hnx
end Go.Proofs.Ytcnlmpdpimhcbaa
