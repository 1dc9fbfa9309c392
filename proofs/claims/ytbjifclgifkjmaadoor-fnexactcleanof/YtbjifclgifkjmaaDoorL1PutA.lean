/- A tree with one part more: the specification's l1Put. -/
import Derived.Test.YtbjifclgifkjmaaDoorL1Put
namespace Go.Proofs.YtbjifclgifkjmaaDoor
open Go.RowKit
set_option linter.unusedVariables false

set_option maxRecDepth 100000 in
set_option maxHeartbeats 12000000 in
theorem l1Put_any (S : Nat → Prop) (t x : Tr) (v vx : Value) (name : ByteArray) (w : World) (ht : TreeIs w S t v) (hx : TreeIs w S x vx) (hnd : t.named) (hc : t.kids.length ≤ 2 ^ 19) :
    Calls Tryd.prog 29 #[v, .string name, vx] w fun e w' => ∃ (k n : Int) (tx : ByteArray) (an : Option Addr) (mn cn : Nat) (ak : Option Addr) (mk ck : Nat), e = .returned (.agg #[.int .i64 k, .int .i64 n, .string tx, .slice an mn cn, .slice ak mk ck]) ∧ TreeIs w' (fun b => S b ∨ w.heap.size ≤ b) (putK t name x) (.agg #[.int .i64 k, .int .i64 n, .string tx, .slice an mn cn, .slice ak mk ck]) ∧ Below w.heap.size w w' := by
  obtain ⟨k, n, tx, nm, ks⟩ := t
  dsimp only [Tr.kids] at hc
  rw [Tr.named] at hnd
  obtain ⟨p, hp⟩ : ∃ p, p = putAt (.mk k n tx nm ks) name := ⟨_, rfl⟩
  have hple : p ≤ ks.length := by
    rw [hp, putAt]
    split
    · rename_i h7
      rw [← hnd.1 h7]
      exact putPos_le _ _
    · exact Nat.le_refl _
  have HPK : Hid (putK (.mk k n tx nm ks) name x = .mk k 0 ⟨#[]⟩ (if k = 7 then nm.take p ++ name :: nm.drop p else []) (ks.take p ++ x :: ks.drop p)) := by show _ = _; rw [putK, hp]
  have HP7 : Hid (k = 7 → p = putPos nm name ∧ nm.length = ks.length) := fun h7 => ⟨by rw [hp, putAt, if_pos h7], hnd.1 h7⟩
  have HPN7 : Hid (k ≠ 7 → p = ks.length) := fun h7 => by rw [hp, putAt, if_neg h7]
  obtain ⟨an, cn, ak, ck, rfl, hnm, hk⟩ := TreeIs.open ht
  have hcap : nm.length ≤ cn ∧ ks.length ≤ ck := TreeIs.caps ht
  have HPN : Hid (PN an cn ∧ PN ak ck) := TreeIs.pns ht
  obtain ⟨xan, xcn, xak, xck, rfl⟩ := (TreeIs.any hx).head
  have HX : Hid (TreeIs w S x (.agg #[.int .i64 x.kind, .int .i64 x.num, .string x.text, .slice xan x.names.length xcn, .slice xak x.kids.length xck])) := hx
  have HNM : Hid (∀ (W : World), Below w.heap.size w W → ∀ gn, an = some ⟨gn, 0, none⟩ → ∀ j, j < nm.length → W.cell? ⟨gn, j, none⟩ = some (.string (nm.getD j ByteArray.empty))) := fun W hW gn hgn j hj => by
    rcases hnm with h0 | ⟨gn', h1, _, h2, h3⟩
    · rw [h0] at hj; simp at hj
    · rw [hgn] at h1
      obtain rfl : gn = gn' := by simpa using h1
      exact (hW.cell h2).trans (h3 j hj)
  obtain ⟨l, hl, HSRC, HONE, HLT⟩ : ∃ l : List Five, l.length = ks.length ∧ Hid (∀ (W : World) (o m : Nat), Below w.heap.size w W → ∀ g, ak = some ⟨g, 0, none⟩ → ∀ (q : Nat) (u : Value), (fiveCells ((l.drop o).take m))[q]? = some u → W.cell? ((⟨g, o * 5, none⟩ : Addr).add q) = some u) ∧ Hid (∀ o m, ∀ u ∈ fiveCells ((l.drop o).take m), u.oneCell' = true) ∧ Hid (∀ (i : Nat) (y : Tr), ks[i]? = some y → ∃ f, l[i]? = some f ∧ TreeIs w S y f.agg) := by
    rcases hk with h0 | ⟨g, h1, _, h2, h3⟩
    · subst h0
      refine ⟨[], rfl, fun W o m _ g _ q u hu => ?_, fun o m u hu => ?_, fun i y hy => by simp at hy⟩
      · simp [fiveCells] at hu
      · simp [fiveCells] at hu
    · obtain ⟨l, hl, hlc, hlT, hone⟩ := kids_list (j := 0) (kidsAt_iff.2 (fun i x hx => by rw [Nat.zero_add]; exact h3 i x hx))
      refine ⟨l, hl, fun W o m hW g' hg' q u hu => ?_, fun o m => five_ones hone (fun f hf => List.mem_of_mem_drop (List.mem_of_mem_take hf)), hlT⟩
      obtain rfl : g' = g := by
        rw [h1] at hg'
        simpa using hg'.symm
      have := five_at (w := w) (g := g') (o := o) (l := (l.drop o).take m) (fun j f hf => by
        rw [List.getElem?_take] at hf
        split at hf
        · rw [List.getElem?_drop] at hf
          have := hlc (o + j) f hf
          rwa [Nat.zero_add] at this
        · simp at hf) q u hu
      rw [add_none] at this ⊢
      exact (hW.cell h2).trans this
  have HLN : Hid (∀ o m, o + m ≤ l.length → (fiveCells ((l.drop o).take m)).length = m * 5 ∧ ((l.drop o).take m).length = m) := fun o m h => ⟨by rw [five_len, List.length_take, List.length_drop, Nat.min_eq_left (by omega)], by rw [List.length_take, List.length_drop, Nat.min_eq_left (by omega)]⟩
  clear hnm hk hx ht hnd hp
  go_enter Tryd.func29, Tryd.ntmps29
  go_upto_if 14 with fail
  generalize hW0 : ((w.alloc (.cells #[.int .i64 k, .int .i64 n, .string tx, .slice an nm.length cn, .slice ak ks.length ck] 41)).alloc (.cells #[.int .i64 x.kind, .int .i64 x.num, .string x.text, .slice xan x.names.length xcn, .slice xak x.kids.length xck] 41)).alloc (.cells #[.int .i64 0, .int .i64 0, .string ⟨#[]⟩, .slice none 0 0, .slice none 0 0] 41) = W0
  have hs0 : W0.heap.size = w.heap.size + 3 := by rw [← hW0]; simp
  have HB0 : Hid (Below w.heap.size w W0) := by show Below _ _ _; rw [← hW0]; exact (((Below.refl _ w).alloc (Nat.le_refl _) _).alloc (by simp) _).alloc (by simp; omega) _
  have HV : Hid (FiveAt W0 w.heap.size (.int .i64 k) (.int .i64 n) (.string tx) (.slice an nm.length cn) (.slice ak ks.length ck)) := by
    show FiveAt _ _ _ _ _ _ _
    rw [← hW0]
    exact (fiveAt_new w _ _ _ _ _ _).below (((Below.refl _ _).alloc (Nat.le_refl _) _).alloc (by simp) _) (by simp)
  have HXB : Hid (FiveAt W0 (w.heap.size + 1) (.int .i64 x.kind) (.int .i64 x.num) (.string x.text) (.slice xan x.names.length xcn) (.slice xak x.kids.length xck)) := by
    show FiveAt _ _ _ _ _ _ _
    rw [← hW0]
    have := fiveAt_new (w.alloc (.cells #[.int .i64 k, .int .i64 n, .string tx, .slice an nm.length cn, .slice ak ks.length ck] 41)) (.int .i64 x.kind) (.int .i64 x.num) (.string x.text) (.slice xan x.names.length xcn) (.slice xak x.kids.length xck) 41
    rw [World.size_alloc] at this
    exact this.below ((Below.refl _ _).alloc (Nat.le_refl _) _) (by simp)
  have HZB : Hid (FiveAt W0 (w.heap.size + 1 + 1) (.int .i64 0) (.int .i64 0) (.string ⟨#[]⟩) (.slice none 0 0) (.slice none 0 0)) := by
    show FiveAt _ _ _ _ _ _ _
    rw [← hW0]
    have := fiveAt_new ((w.alloc (.cells #[.int .i64 k, .int .i64 n, .string tx, .slice an nm.length cn, .slice ak ks.length ck] 41)).alloc (.cells #[.int .i64 x.kind, .int .i64 x.num, .string x.text, .slice xan x.names.length xcn, .slice xak x.kids.length xck] 41)) (.int .i64 0) (.int .i64 0) (.string ⟨#[]⟩) (.slice none 0 0) (.slice none 0 0) 41
    rw [World.size_alloc, World.size_alloc] at this
    exact this
  clear hW0
  go_cut [7] (fun q wx => q = .int .i64 (p : Int) ∧ wx = W0)
  case first =>
    by_cases h7 : k = 7
    · subst h7
      obtain ⟨HQ1, HQ2⟩ := HP7.out rfl
      have hq2 : nm.length ≤ 2 ^ 19 := by omega
      have HQ : Hid (p = putPos nm name) := HQ1
      have a3 := HV.out.1.2.2.2.1
      have HNC : Hid (∀ j, j < nm.length → ∃ gn, an = some ⟨gn, 0, none⟩ ∧ W0.cell? ⟨gn, j, none⟩ = some (.string (nm.getD j ByteArray.empty))) := fun j hj => by
        rcases HPN.out.1 with ⟨_, h0⟩ | ⟨gn, h1⟩
        · omega
        · exact ⟨gn, h1, HNM.out W0 HB0.out gn h1 j hj⟩
      clear HQ1 HQ2
      go_wp2_with fail
      go_loopw [7] (fun q wr => ∃ j : Nat, j ≤ nm.length ∧ q = .int .i64 (j : Int) ∧ Hid (∀ i y, i < j → nm[i]? = some y → leB y name = true) ∧ W0 = wr) (fun q _ => nm.length - (intOf q).toNat)
      case atStart => exact ⟨0, Nat.zero_le _, rfl, fun i y h => by omega, rfl⟩
      case round =>
        obtain ⟨j, hj, rfl, HA, rfl⟩ := hrel
        by_cases hlt : j < nm.length
        · obtain ⟨gn, rfl, hcj⟩ := HNC.out j hlt
          obtain ⟨y, hy⟩ : ∃ y, y = nm.getD j ByteArray.empty := ⟨_, rfl⟩
          have HY : Hid (nm[j]? = some y) := by show _ = _; rw [hy, List.getD_eq_getElem?_getD, List.getElem?_eq_getElem hlt]; rfl
          rw [← hy] at hcj
          clear hy
          have j0 : (0 : Int) ≤ (j : Int) := by omega
          have j1 : (j : Int) < (nm.length : Int) := by omega
          cases hle : (Op.bytesLess y.toList name.toList || y.toList == name.toList) with
          | true =>
            have HA2 : Hid (∀ i z, i < j + 1 → nm[i]? = some z → leB z name = true) := fun i z hi hz => by
              by_cases e : i = j
              · subst e
                obtain rfl := Option.some.inj (HY.out.symm.trans hz)
                exact hle
              · exact HA.out i z (by omega) hz
            go_wp2
            go_roundw
            case rel => exact ⟨j + 1, by omega, by go_num, HA2, trivial⟩
            case measure => simp [intOf]; omega
          | false =>
            have HE : Hid (p = j) := HQ.out.trans (putPos_at HA.out hj (fun z hz => by
              obtain rfl := Option.some.inj (HY.out.symm.trans hz)
              exact hle))
            go_wp2
            go_meet
            case rel => exact ⟨by rw [HE.out], rfl⟩
        · obtain rfl : j = nm.length := by omega
          have HE : Hid (p = nm.length) := HQ.out.trans (putPos_at HA.out hj (fun z hz => by simp at hz))
          go_wp2
          go_meet
          case rel => exact ⟨by rw [HE.out], rfl⟩
    · have HE : Hid (p = ks.length) := HPN7.out h7
      go_wp2_with fail
      go_meet
      case rel => exact ⟨by rw [HE.out], rfl⟩
  case rest =>
    obtain ⟨rfl, hwc⟩ := hcut
    subst hwc
    obtain ⟨V, hV⟩ : ∃ V : Five, V = ⟨.int .i64 k, .int .i64 n, .string tx, .slice an nm.length cn, .slice ak ks.length ck⟩ := ⟨_, rfl⟩
    obtain ⟨X, hX⟩ : ∃ X : Five, X = ⟨.int .i64 x.kind, .int .i64 x.num, .string x.text, .slice xan x.names.length xcn, .slice xak x.kids.length xck⟩ := ⟨_, rfl⟩
    obtain ⟨i5, h50, h51, h52, h53⟩ := info_parts infoV
    have HI : Hid (Tryd.prog.info? 41 = some i5 ∧ i5.zero = some (.agg #[.int .i64 0, .int .i64 0, .string ⟨#[]⟩, .slice none 0 0, .slice none 0 0]) ∧ i5.size = 5 ∧ i5.bytes = 80) := ⟨h50, h51, h52, h53⟩
    clear h50 h51 h52 h53
    go_upto_region 6 with fail
    go_cut [8] (fun q wx => q = .pointer (some ⟨w.heap.size + 1 + 1 + 1, 0, none⟩) ∧ Hid (PutSt w wx V X (.int .i64 k) (.slice none 0 0) none 0 []))
    case first =>
      have b0 := HV.out.1.1
      have HO : Hid (PutSt w (wc.alloc (.cells #[.int .i64 k, .int .i64 0, .string ⟨#[]⟩, .slice none 0 0, .slice none 0 0] 41)) V X (.int .i64 k) (.slice none 0 0) none 0 []) := by
        have ha : ∀ o, Below wc.heap.size wc (wc.alloc o) := fun o => (Below.refl _ _).alloc (Nat.le_refl _) o
        subst hV hX
        refine ⟨HV.out.below (ha _) (by omega), HXB.out.below (ha _) (by omega), HZB.out.below (ha _) (by omega), ?_, World.ownsRow_nil _ _ _ _, by simp; omega, HB0.out.trans ((ha _).mono HB0.out.size)⟩
        have := fiveAt_new wc (.int .i64 k) (.int .i64 0) (.string ⟨#[]⟩) (.slice none 0 0) (.slice none 0 0) 41
        rw [hs0] at this
        exact this
      go_wp2_with fail
      go_meet
      case rel => exact ⟨rfl, HO⟩
    case rest =>
      obtain ⟨rfl, HP⟩ := hcut
      clear hs0 HB0 HV HXB HZB
      go_upto_region 7 with fail
      go_cut [] (fun wx => ∃ a2 c2 L, Hid (L = (l.drop 0).take p) ∧ Hid (PutSt w wx V X (.int .i64 k) (.slice none 0 0) a2 c2 L))
      case first =>
        have HD : Below wc.heap.size wc wc.drew := Below.drew (Below.refl wc.heap.size wc)
        have HBW : Hid (Below w.heap.size w wc.drew) := HP.out.2.2.2.2.2.2.trans (HD.mono HP.out.2.2.2.2.2.2.size)
        have hzz : w.heap.size + 4 ≤ wc.heap.size := HP.out.2.2.2.2.2.1
        have b4 : wc.cell? ⟨w.heap.size, 4, none⟩ = some (.slice ak ks.length ck) := by have := HP.out.1.1.2.2.2.2; rw [hV] at this; exact this
        have o4 := HP.out.2.2.2.1.1.2.2.2.2
        have g4 := HP.out.2.2.2.1.2.2.2.2.2
        have HOE : Hid (wc.drew.ownsRow (w.heap.size + 4) 41 5 (.slice none ([] : List Five).length 0) ([] : List Five).length (fiveCells ([] : List Five))) := HP.out.2.2.2.2.1
        rcases HPN.out.2 with ⟨hak, hck⟩ | ⟨g, rfl⟩
        · subst hak hck
          obtain rfl : ks = [] := List.eq_nil_of_length_eq_zero (by omega)
          obtain rfl : l = [] := List.eq_nil_of_length_eq_zero (by simpa using hl)
          obtain rfl : p = 0 := by simpa using hple
          simp only [List.length_nil] at b4
          have HLEN : Hid (((([] : List Five).drop 0).take 0).length = 0) := rfl
          have HPART : Hid (PartF wc.drew none 0 0 5 (fiveCells ((([] : List Five).drop 0).take 0))) := ⟨rfl, fun u hu => by simp [fiveCells] at hu, .inl ⟨rfl, rfl, rfl⟩⟩
          go_region_law (first | (refine step_append_part (by rfl) _ _ 39 (by rfl) (w.heap.size + 4) 41 i5 _ 5 80 Tryd.underlying39 HI.out.1 HI.out.2.1 HI.out.2.2.1 HI.out.2.2.2 rfl (by decide) (.slice none ([] : List Five).length 0) ([] : List Five).length (fiveCells ([] : List Five)) (by rfl) HOE.out none 0 0 (fiveCells ((([] : List Five).drop 0).take 0)) (by rfl) HPART.out (by unfold maxLen; first | omega | (simp; omega)) (by first | omega | (simp; omega)) hzz ?_; intro v6 w6 hown6 hg6; have HG6 := put_grow HP.out HD hg6 hown6 HLEN.out; obtain ⟨a6, c6, L6, rfl, HL6, HST6⟩ := HG6; obtain ⟨q6, r6⟩ := put_cell HP.out HD hg6))
          all_goals
            clear hown6 hg6 HPART
            skip
            go_wp2_with fail
            go_meet
            case rel => exact ⟨a6, c6, L6, HL6, HST6⟩
        · skip
          have i0 : (0 : Int) ≤ (p : Int) := by omega
          have i1 : (p : Int) ≤ (ck : Int) := by omega
          have i2 : p ≤ ck := by omega
          have HLEN : Hid (((l.drop 0).take p).length = p) := (HLN.out 0 p (by omega)).2
          have HPART : Hid (PartF wc.drew (some ⟨g, 0, none⟩) p ck 5 (fiveCells ((l.drop 0).take p))) := ⟨(HLN.out 0 p (by omega)).1, HONE.out 0 p, .inr ⟨⟨g, 0, none⟩, rfl, fun q u hu => by have := HSRC.out wc.drew 0 p HBW.out g rfl q u hu; rwa [Nat.zero_mul] at this⟩⟩
          go_region_law (first | (refine step_append_part (by rfl) _ _ 39 (by rfl) (w.heap.size + 4) 41 i5 _ 5 80 Tryd.underlying39 HI.out.1 HI.out.2.1 HI.out.2.2.1 HI.out.2.2.2 rfl (by decide) (.slice none ([] : List Five).length 0) ([] : List Five).length (fiveCells ([] : List Five)) (by rfl) HOE.out (some ⟨g, 0, none⟩) p ck (fiveCells ((l.drop 0).take p)) (by rfl) HPART.out (by unfold maxLen; first | omega | (simp; omega)) (by first | omega | (simp; omega)) hzz ?_; intro v6 w6 hown6 hg6; have HG6 := put_grow HP.out HD hg6 hown6 HLEN.out; obtain ⟨a6, c6, L6, rfl, HL6, HST6⟩ := HG6; obtain ⟨q6, r6⟩ := put_cell HP.out HD hg6))
          all_goals
            clear hown6 hg6 HPART
            skip
            go_wp2_with fail
            go_meet
            case rel => exact ⟨a6, c6, L6, HL6, HST6⟩
      case rest =>
        obtain ⟨a1, c1, L1, HL1, HP1⟩ := hcut
        clear HP
        have HLL1 : Hid (L1.length = p) := by show _ = _; rw [HL1.out]; exact (HLN.out 0 p (by omega)).2
        have hLb1 : L1.length ≤ 2 ^ 19 := by have := HLL1.out; omega
        go_upto_region 8 with fail
        go_cut [] (fun wx => ∃ a2 c2 L, Hid (L = L1 ++ [X]) ∧ Hid (PutSt w wx V X (.int .i64 k) (.slice none 0 0) a2 c2 L))
        case first =>
          have hzz : w.heap.size + 4 ≤ wc.heap.size := HP1.out.2.2.2.2.2.1
          obtain ⟨⟨p0, p1, p2, p3, p4⟩, _⟩ := HP1.out.2.1
          have HOX : Hid (∀ u ∈ fiveCells [X], u.oneCell' = true) := by
            subst hX
            intro u hu
            simp [fiveCells, Five.cells] at hu
            rcases hu with rfl | rfl | rfl | rfl | rfl <;> rfl
          have HXE : Hid (X = ⟨.int .i64 x.kind, .int .i64 x.num, .string x.text, .slice xan x.names.length xcn, .slice xak x.kids.length xck⟩) := hX
          rw [hX] at p0 p1 p2 p3 p4
          dsimp only at p0 p1 p2 p3 p4
          have o4 := HP1.out.2.2.2.1.1.2.2.2.2
          have g4 := HP1.out.2.2.2.1.2.2.2.2.2
          have HD : ∀ o, Below wc.heap.size wc (wc.alloc o) := fun o => (Below.refl _ _).alloc (Nat.le_refl _) o
          have HOE : Hid (∀ o, (wc.alloc o).ownsRow (w.heap.size + 4) 41 5 (.slice a1 L1.length c1) L1.length (fiveCells L1)) := fun o => World.ownsRow.alloc HP1.out.2.2.2.2.1 o
          have HNC : Hid (∀ j u, (fiveCells [X])[j]? = some u → (wc.alloc (.cells #[.int .i64 x.kind, .int .i64 x.num, .string x.text, .slice xan x.names.length xcn, .slice xak x.kids.length xck] 41)).cell? ((⟨wc.heap.size, 0, none⟩ : Addr).add j) = some u) := fun j u hu => by
            rw [HXE.out] at hu
            rw [add_none, Nat.zero_add, World.cell?_alloc_new]
            simpa [fiveCells, Five.cells] using hu
          clear hX
          go_wp2_with (first | (at_builtin; refine wpList_append_own _ rfl _ _ 39 rfl (w.heap.size + 4) 41 i5 _ 5 80 Tryd.underlying39 HI.out.1 HI.out.2.1 HI.out.2.2.1 HI.out.2.2.2 rfl (by decide) (.slice a1 L1.length c1) L1.length (fiveCells L1) rfl (HOE.out _) ⟨wc.heap.size, 0, none⟩ 1 1 (fiveCells [X]) rfl rfl HNC.out HOX.out (by unfold maxLen; omega) (by omega) (by simp; omega) ?_))
          intro v6 w6 hown6 hg6 _
          obtain ⟨a6, c6, L6, rfl, HL6, HST6⟩ := put_grow (m := 1) (l' := [X]) HP1.out (HD _) hg6 hown6 rfl
          obtain ⟨q6, r6⟩ := put_cell HP1.out (HD _) hg6
          clear hown6 hg6 HNC
          go_wp2_with fail
          go_meet
          case rel => exact ⟨a6, c6, L6, HL6, HST6⟩
        case rest =>
          obtain ⟨a2, c2, L2, HL2, HP2⟩ := hcut
          clear HP1
          have HLL2 : Hid (L2.length = p + 1) := by show _ = _; rw [HL2.out, List.length_append, HLL1.out]; rfl
          have hLb2 : L2.length ≤ 2 ^ 20 := by have := HLL2.out; omega
          go_upto_region 9 with fail
          go_cut [] (fun wx => ∃ a2 c2 L, Hid (L = L2 ++ (l.drop p).take (ks.length - p)) ∧ Hid (PutSt w wx V X (.int .i64 k) (.slice none 0 0) a2 c2 L))
          case first =>
            have HD : Below wc.heap.size wc wc.drew := Below.drew (Below.refl wc.heap.size wc)
            have HBW : Hid (Below w.heap.size w wc.drew) := HP2.out.2.2.2.2.2.2.trans (HD.mono HP2.out.2.2.2.2.2.2.size)
            have hzz : w.heap.size + 4 ≤ wc.heap.size := HP2.out.2.2.2.2.2.1
            have b4 : wc.cell? ⟨w.heap.size, 4, none⟩ = some (.slice ak ks.length ck) := by have := HP2.out.1.1.2.2.2.2; rw [hV] at this; exact this
            have o4 := HP2.out.2.2.2.1.1.2.2.2.2
            have g4 := HP2.out.2.2.2.1.2.2.2.2.2
            have HOE : Hid (wc.drew.ownsRow (w.heap.size + 4) 41 5 (.slice a2 L2.length c2) L2.length (fiveCells L2)) := HP2.out.2.2.2.2.1
            rcases HPN.out.2 with ⟨hak, hck⟩ | ⟨g, rfl⟩
            · subst hak hck
              obtain rfl : ks = [] := List.eq_nil_of_length_eq_zero (by omega)
              obtain rfl : l = [] := List.eq_nil_of_length_eq_zero (by simpa using hl)
              obtain rfl : p = 0 := by simpa using hple
              simp only [List.length_nil] at b4
              have HLEN : Hid (((([] : List Five).drop 0).take (([] : List Tr).length - 0)).length = 0) := rfl
              have HPART : Hid (PartF wc.drew none 0 0 5 (fiveCells ((([] : List Five).drop 0).take (([] : List Tr).length - 0)))) := ⟨rfl, fun u hu => by simp [fiveCells] at hu, .inl ⟨rfl, rfl, rfl⟩⟩
              go_region_law (first | (refine step_append_part (by rfl) _ _ 39 (by rfl) (w.heap.size + 4) 41 i5 _ 5 80 Tryd.underlying39 HI.out.1 HI.out.2.1 HI.out.2.2.1 HI.out.2.2.2 rfl (by decide) (.slice a2 L2.length c2) L2.length (fiveCells L2) (by rfl) HOE.out none 0 0 (fiveCells ((([] : List Five).drop 0).take (([] : List Tr).length - 0))) (by rfl) HPART.out (by unfold maxLen; first | omega | (simp; omega)) (by first | omega | (simp; omega)) hzz ?_; intro v6 w6 hown6 hg6; have HG6 := put_grow HP2.out HD hg6 hown6 HLEN.out; obtain ⟨a6, c6, L6, rfl, HL6, HST6⟩ := HG6; obtain ⟨q6, r6⟩ := put_cell HP2.out HD hg6))
              all_goals
                clear hown6 hg6 HPART
                skip
                go_wp2_with fail
                go_meet
                case rel => exact ⟨a6, c6, L6, HL6, HST6⟩
            · skip
              have i0 : (0 : Int) ≤ (p : Int) := by omega
              have i1 : (p : Int) ≤ (ks.length : Int) := by omega
              have i2 : p ≤ ks.length := by omega
              have i3 : ks.length ≤ ck := by omega
              have i4 : (ks.length : Int) ≤ (ck : Int) := by omega
              have HLEN : Hid (((l.drop p).take (ks.length - p)).length = ks.length - p) := (HLN.out p (ks.length - p) (by omega)).2
              have HPART : Hid (PartF wc.drew (if ck = p then some ⟨g, 0, none⟩ else some ⟨g, p * 5, none⟩) (ks.length - p) (ck - p) 5 (fiveCells ((l.drop p).take (ks.length - p)))) := by
                refine ⟨(HLN.out p (ks.length - p) (by omega)).1, HONE.out p _, .inr ?_⟩
                by_cases e : ck = p
                · refine ⟨⟨g, 0, none⟩, by rw [if_pos e], fun q u hu => ?_⟩
                  rw [show ks.length - p = 0 by omega] at hu
                  simp [fiveCells] at hu
                · exact ⟨⟨g, p * 5, none⟩, by rw [if_neg e], HSRC.out wc.drew p _ HBW.out g rfl⟩
              go_region_law (first | (refine step_append_part (by rfl) _ _ 39 (by rfl) (w.heap.size + 4) 41 i5 _ 5 80 Tryd.underlying39 HI.out.1 HI.out.2.1 HI.out.2.2.1 HI.out.2.2.2 rfl (by decide) (.slice a2 L2.length c2) L2.length (fiveCells L2) (by rfl) HOE.out (if ck = p then some ⟨g, 0, none⟩ else some ⟨g, p * 5, none⟩) (ks.length - p) (ck - p) (fiveCells ((l.drop p).take (ks.length - p))) (by rfl) HPART.out (by unfold maxLen; first | omega | (simp; omega)) (by first | omega | (simp; omega)) hzz ?_; intro v6 w6 hown6 hg6; have HG6 := put_grow HP2.out HD hg6 hown6 HLEN.out; obtain ⟨a6, c6, L6, rfl, HL6, HST6⟩ := HG6; obtain ⟨q6, r6⟩ := put_cell HP2.out HD hg6))
              all_goals
                clear hown6 hg6 HPART
                generalize (if ck = p then some (⟨g, 0, none⟩ : Addr) else some ⟨g, p * 5, none⟩) = ax
                go_wp2_with fail
                go_meet
                case rel => exact ⟨a6, c6, L6, HL6, HST6⟩
          case rest =>
            obtain ⟨a3, c3, L3, HL3, HP3⟩ := hcut
            have HLE : Hid (L3 = l.take p ++ X :: l.drop p) := by
              show _ = _
              rw [HL3.out, HL2.out, HL1.out, List.drop_zero, List.append_assoc, List.take_of_length_le (l := List.drop p l) (by rw [List.length_drop]; omega)]
              rfl
            have HTL : Hid (L3.length = (ks.take p ++ x :: ks.drop p).length) := by
              show _ = _
              rw [HLE.out]
              simp [hl]
            have HTT : Hid (∀ (i : Nat) (y : Tr) (f : Five), (ks.take p ++ x :: ks.drop p)[i]? = some y → L3[i]? = some f → TreeIs w S y f.agg) := fun i y f hy hf => by
              rw [HLE.out] at hf
              rcases Nat.lt_trichotomy i p with h | h | h
              · rw [List.getElem?_append_left (by rw [List.length_take]; omega), List.getElem?_take, if_pos h] at hy hf
                obtain ⟨f', hf', htr⟩ := HLT.out i y hy
                obtain rfl := Option.some.inj (hf.symm.trans hf')
                exact htr
              · subst h
                rw [List.getElem?_append_right (by rw [List.length_take]; omega), List.length_take, Nat.min_eq_left (by omega), Nat.sub_self] at hy hf
                simp only [List.getElem?_cons_zero, Option.some.injEq] at hy hf
                subst hy hf
                rw [hX]
                exact HX.out
              · rw [List.getElem?_append_right (by rw [List.length_take]; omega), List.length_take, Nat.min_eq_left (by omega)] at hy hf
                obtain ⟨d, rfl⟩ : ∃ d, i = p + 1 + d := ⟨i - (p + 1), by omega⟩
                rw [show p + 1 + d - p = d + 1 by omega, List.getElem?_cons_succ, List.getElem?_drop] at hy hf
                obtain ⟨f', hf', htr⟩ := HLT.out (p + d) y hy
                obtain rfl := Option.some.inj (hf.symm.trans hf')
                exact htr
            clear HP2 HSRC HONE HL1 HL2 HL3 HLE hLb1 hLb2 HLL1 HLL2 HX HLT HLN
            have b0 : wc.cell? ⟨w.heap.size, 0, none⟩ = some (.int .i64 k) := by have := HP3.out.1.1.1; rw [hV] at this; exact this
            go_upto_if 58 with fail
            go_cut [] (fun wx => ∃ wb a1 c1 nms, Hid (putK (.mk k n tx nm ks) name x = .mk k 0 ⟨#[]⟩ nms (ks.take p ++ x :: ks.drop p)) ∧ Hid (PutSt w wb V X (.int .i64 k) (.slice none 0 0) a3 c3 L3) ∧ Hid (PutN w wb wx V (.int .i64 k) (.slice a3 L3.length c3) a1 c1 nms))
            case first =>
              by_cases h7 : k = 7
              · subst h7
                have hnl := (HP7.out rfl).2
                have hq2 : nm.length ≤ 2 ^ 19 := by omega
                have hpn : p ≤ nm.length := by omega
                clear hnl
                obtain ⟨iS, h50, h51, h52, h53⟩ := info_parts infoStr
                have HJ : Hid (Tryd.prog.info? 9 = some iS ∧ iS.zero = some (.string ⟨#[]⟩) ∧ iS.size = 1 ∧ iS.bytes = 16) := ⟨h50, h51, h52, h53⟩
                clear h50 h51 h52 h53 hl hple hc HTL HTT
                have HSN : Hid (∀ (W : World) (o m : Nat), Below w.heap.size w W → ∀ gn, an = some ⟨gn, 0, none⟩ → ∀ (q : Nat) (u : Value), (((nm.drop o).take m).map Value.string)[q]? = some u → W.cell? ((⟨gn, o, none⟩ : Addr).add q) = some u) := fun W o m hW gn hgn => nams_cells (HNM.out W hW gn hgn) o _ (fun q x hx => by
                  rw [List.getElem?_take] at hx
                  split at hx
                  · rwa [List.getElem?_drop] at hx
                  · simp at hx)
                have HLM : Hid (∀ o m, o + m ≤ nm.length → (((nm.drop o).take m).map Value.string).length = m * 1 ∧ ((nm.drop o).take m).length = m) := fun o m h => ⟨by rw [List.length_map, List.length_take, List.length_drop, Nat.min_eq_left (by omega), Nat.mul_one], by rw [List.length_take, List.length_drop, Nat.min_eq_left (by omega)]⟩
                obtain ⟨wb, hwb⟩ : ∃ wb, wb = wc := ⟨_, rfl⟩
                subst hwb
                have HN0 : Hid (PutN w wb wb V (.int .i64 7) (.slice a3 L3.length c3) none 0 []) := HP3.out.names
                clear HNM
                go_upto_region 11 with fail
                go_cut [] (fun wx => ∃ a2 c2 L, Hid (L = (nm.drop 0).take p) ∧ Hid (PutN w wb wx V (.int .i64 7) (.slice a3 L3.length c3) a2 c2 L))
                case first =>
                  have HD : Below wb.heap.size wb wb.drew := Below.drew (Below.refl wb.heap.size wb)
                  have HBW : Hid (Below w.heap.size w wb.drew) := HN0.out.2.2.2.2.2.2.2.trans (HD.mono HN0.out.2.2.2.2.2.2.2.size)
                  have hzz : wb.heap.size ≤ wb.heap.size := HN0.out.2.2.2.2.2.1
                  have b3 : wb.cell? ⟨w.heap.size, 3, none⟩ = some (.slice an nm.length cn) := by have := HN0.out.1.1.2.2.2.1; rw [hV] at this; exact this
                  have o3 := HN0.out.2.2.1.1.2.2.2.1
                  have g3 := HN0.out.2.2.1.2.2.2.2.1
                  have HOE : Hid (wb.drew.ownsRow wb.heap.size 9 1 (.slice none ([] : List ByteArray).length 0) ([] : List ByteArray).length (([] : List ByteArray).map Value.string)) := HN0.out.2.2.2.1
                  rcases HPN.out.1 with ⟨han, hcn⟩ | ⟨gn, rfl⟩
                  · subst han hcn
                    obtain rfl : nm = [] := List.eq_nil_of_length_eq_zero (by omega)
                    obtain rfl : p = 0 := by simpa using hpn
                    simp only [List.length_nil] at b3
                    have HLEN : Hid (((([] : List ByteArray).drop 0).take 0).length = 0) := rfl
                    have HPART : Hid (PartF wb.drew none 0 0 1 (((([] : List ByteArray).drop 0).take 0).map Value.string)) := ⟨rfl, fun u hu => by simp at hu, .inl ⟨rfl, rfl, rfl⟩⟩
                    go_region_law (first | (refine step_append_part (by rfl) _ _ 38 (by rfl) wb.heap.size 9 iS _ 1 16 Tryd.underlying38 HJ.out.1 HJ.out.2.1 HJ.out.2.2.1 HJ.out.2.2.2 rfl (by decide) (.slice none ([] : List ByteArray).length 0) ([] : List ByteArray).length (([] : List ByteArray).map Value.string) (by rfl) HOE.out none 0 0 (((([] : List ByteArray).drop 0).take 0).map Value.string) (by rfl) HPART.out (by unfold maxLen; first | omega | (simp; omega)) (by first | omega | (simp; omega)) hzz ?_; intro v6 w6 hown6 hg6; have HG6 := putN_grow HN0.out HD hg6 hown6 HLEN.out; obtain ⟨a6, c6, L6, rfl, HL6, HST6⟩ := HG6; obtain ⟨q6, r6⟩ := putN_cell HN0.out HD hg6))
                    all_goals
                      clear hown6 hg6 HPART
                      skip
                      go_wp2_with fail
                      go_meet
                      case rel => exact ⟨a6, c6, L6, HL6, HST6⟩
                  · skip
                    have i0 : (0 : Int) ≤ (p : Int) := by omega
                    have i1 : (p : Int) ≤ (cn : Int) := by omega
                    have i2 : p ≤ cn := by omega
                    have HLEN : Hid (((nm.drop 0).take p).length = p) := (HLM.out 0 p (by omega)).2
                    have HPART : Hid (PartF wb.drew (some ⟨gn, 0, none⟩) p cn 1 (((nm.drop 0).take p).map Value.string)) := ⟨(HLM.out 0 p (by omega)).1, str_ones _, .inr ⟨⟨gn, 0, none⟩, rfl, HSN.out wb.drew 0 p HBW.out gn rfl⟩⟩
                    go_region_law (first | (refine step_append_part (by rfl) _ _ 38 (by rfl) wb.heap.size 9 iS _ 1 16 Tryd.underlying38 HJ.out.1 HJ.out.2.1 HJ.out.2.2.1 HJ.out.2.2.2 rfl (by decide) (.slice none ([] : List ByteArray).length 0) ([] : List ByteArray).length (([] : List ByteArray).map Value.string) (by rfl) HOE.out (some ⟨gn, 0, none⟩) p cn (((nm.drop 0).take p).map Value.string) (by rfl) HPART.out (by unfold maxLen; first | omega | (simp; omega)) (by first | omega | (simp; omega)) hzz ?_; intro v6 w6 hown6 hg6; have HG6 := putN_grow HN0.out HD hg6 hown6 HLEN.out; obtain ⟨a6, c6, L6, rfl, HL6, HST6⟩ := HG6; obtain ⟨q6, r6⟩ := putN_cell HN0.out HD hg6))
                    all_goals
                      clear hown6 hg6 HPART
                      skip
                      go_wp2_with fail
                      go_meet
                      case rel => exact ⟨a6, c6, L6, HL6, HST6⟩
                case rest =>
                  obtain ⟨an1, cn1, N1, HM1, HN1⟩ := hcut
                  clear HN0
                  have HNN1 : Hid (N1.length = p) := by show _ = _; rw [HM1.out]; exact (HLM.out 0 p (by omega)).2
                  have hNb1 : N1.length ≤ 2 ^ 19 := by have := HNN1.out; omega
                  go_upto_region 12 with fail
                  go_cut [] (fun wx => ∃ a2 c2 L, Hid (L = N1 ++ [name]) ∧ Hid (PutN w wb wx V (.int .i64 7) (.slice a3 L3.length c3) a2 c2 L))
                  case first =>
                    have hzz : wb.heap.size ≤ wc.heap.size := HN1.out.2.2.2.2.2.1
                    have o3 := HN1.out.2.2.1.1.2.2.2.1
                    have g3 := HN1.out.2.2.1.2.2.2.2.1
                    have HD : ∀ o, Below wc.heap.size wc (wc.alloc o) := fun o => (Below.refl _ _).alloc (Nat.le_refl _) o
                    have HOE : Hid (∀ o, (wc.alloc o).ownsRow wb.heap.size 9 1 (.slice an1 N1.length cn1) N1.length (N1.map Value.string)) := fun o => World.ownsRow.alloc HN1.out.2.2.2.1 o
                    have HNC : Hid (∀ j u, ([name].map Value.string)[j]? = some u → (wc.alloc (.cells #[.string name] 9)).cell? ((⟨wc.heap.size, 0, none⟩ : Addr).add j) = some u) := fun j u hu => by
                      rw [add_none, Nat.zero_add, World.cell?_alloc_new]
                      simpa using hu
                    have HON : Hid (∀ u ∈ [name].map Value.string, u.oneCell' = true) := str_ones _
                    go_wp2_with (first | (at_builtin; refine wpList_append_own _ rfl _ _ 38 rfl wb.heap.size 9 iS _ 1 16 Tryd.underlying38 HJ.out.1 HJ.out.2.1 HJ.out.2.2.1 HJ.out.2.2.2 rfl (by decide) (.slice an1 N1.length cn1) N1.length (N1.map Value.string) rfl (HOE.out _) ⟨wc.heap.size, 0, none⟩ 1 1 ([name].map Value.string) rfl rfl HNC.out HON.out (by unfold maxLen; omega) (by omega) (by simp; omega) ?_))
                    intro v6 w6 hown6 hg6 _
                    obtain ⟨a6, c6, L6, rfl, HL6, HST6⟩ := putN_grow (m := 1) (l' := [name]) HN1.out (HD _) hg6 hown6 rfl
                    obtain ⟨q6, r6⟩ := putN_cell HN1.out (HD _) hg6
                    clear hown6 hg6 HNC
                    go_wp2_with fail
                    go_meet
                    case rel => exact ⟨a6, c6, L6, HL6, HST6⟩
                  case rest =>
                    obtain ⟨an2, cn2, N2, HM2, HN2⟩ := hcut
                    clear HN1
                    have HNN2 : Hid (N2.length = p + 1) := by show _ = _; rw [HM2.out, List.length_append, HNN1.out]; rfl
                    have hNb2 : N2.length ≤ 2 ^ 20 := by have := HNN2.out; omega
                    go_upto_region 13 with fail
                    go_cut [] (fun wx => ∃ a2 c2 L, Hid (L = N2 ++ (nm.drop p).take (nm.length - p)) ∧ Hid (PutN w wb wx V (.int .i64 7) (.slice a3 L3.length c3) a2 c2 L))
                    case first =>
                      have HD : Below wc.heap.size wc wc.drew := Below.drew (Below.refl wc.heap.size wc)
                      have HBW : Hid (Below w.heap.size w wc.drew) := HN2.out.2.2.2.2.2.2.2.trans (HD.mono HN2.out.2.2.2.2.2.2.2.size)
                      have hzz : wb.heap.size ≤ wc.heap.size := HN2.out.2.2.2.2.2.1
                      have b3 : wc.cell? ⟨w.heap.size, 3, none⟩ = some (.slice an nm.length cn) := by have := HN2.out.1.1.2.2.2.1; rw [hV] at this; exact this
                      have o3 := HN2.out.2.2.1.1.2.2.2.1
                      have g3 := HN2.out.2.2.1.2.2.2.2.1
                      have HOE : Hid (wc.drew.ownsRow wb.heap.size 9 1 (.slice an2 N2.length cn2) N2.length (N2.map Value.string)) := HN2.out.2.2.2.1
                      rcases HPN.out.1 with ⟨han, hcn⟩ | ⟨gn, rfl⟩
                      · subst han hcn
                        obtain rfl : nm = [] := List.eq_nil_of_length_eq_zero (by omega)
                        obtain rfl : p = 0 := by simpa using hpn
                        simp only [List.length_nil] at b3
                        have HLEN : Hid (((([] : List ByteArray).drop 0).take (([] : List ByteArray).length - 0)).length = 0) := rfl
                        have HPART : Hid (PartF wc.drew none 0 0 1 (((([] : List ByteArray).drop 0).take (([] : List ByteArray).length - 0)).map Value.string)) := ⟨rfl, fun u hu => by simp at hu, .inl ⟨rfl, rfl, rfl⟩⟩
                        go_region_law (first | (refine step_append_part (by rfl) _ _ 38 (by rfl) wb.heap.size 9 iS _ 1 16 Tryd.underlying38 HJ.out.1 HJ.out.2.1 HJ.out.2.2.1 HJ.out.2.2.2 rfl (by decide) (.slice an2 N2.length cn2) N2.length (N2.map Value.string) (by rfl) HOE.out none 0 0 (((([] : List ByteArray).drop 0).take (([] : List ByteArray).length - 0)).map Value.string) (by rfl) HPART.out (by unfold maxLen; first | omega | (simp; omega)) (by first | omega | (simp; omega)) hzz ?_; intro v6 w6 hown6 hg6; have HG6 := putN_grow HN2.out HD hg6 hown6 HLEN.out; obtain ⟨a6, c6, L6, rfl, HL6, HST6⟩ := HG6; obtain ⟨q6, r6⟩ := putN_cell HN2.out HD hg6))
                        all_goals
                          clear hown6 hg6 HPART
                          skip
                          go_wp2_with fail
                          go_meet
                          case rel => exact ⟨a6, c6, L6, HL6, HST6⟩
                      · skip
                        have i0 : (0 : Int) ≤ (p : Int) := by omega
                        have i1 : (p : Int) ≤ (nm.length : Int) := by omega
                        have i3 : nm.length ≤ cn := by omega
                        have i4 : (nm.length : Int) ≤ (cn : Int) := by omega
                        have HLEN : Hid (((nm.drop p).take (nm.length - p)).length = nm.length - p) := (HLM.out p (nm.length - p) (by omega)).2
                        have HPART : Hid (PartF wc.drew (if cn = p then some ⟨gn, 0, none⟩ else some ⟨gn, p, none⟩) (nm.length - p) (cn - p) 1 (((nm.drop p).take (nm.length - p)).map Value.string)) := by
                          refine ⟨(HLM.out p (nm.length - p) (by omega)).1, str_ones _, .inr ?_⟩
                          by_cases e : cn = p
                          · refine ⟨⟨gn, 0, none⟩, by rw [if_pos e], fun q u hu => ?_⟩
                            rw [show nm.length - p = 0 by omega] at hu
                            simp at hu
                          · exact ⟨⟨gn, p, none⟩, by rw [if_neg e], HSN.out wc.drew p _ HBW.out gn rfl⟩
                        go_region_law (first | (refine step_append_part (by rfl) _ _ 38 (by rfl) wb.heap.size 9 iS _ 1 16 Tryd.underlying38 HJ.out.1 HJ.out.2.1 HJ.out.2.2.1 HJ.out.2.2.2 rfl (by decide) (.slice an2 N2.length cn2) N2.length (N2.map Value.string) (by rfl) HOE.out (if cn = p then some ⟨gn, 0, none⟩ else some ⟨gn, p, none⟩) (nm.length - p) (cn - p) (((nm.drop p).take (nm.length - p)).map Value.string) (by rfl) HPART.out (by unfold maxLen; first | omega | (simp; omega)) (by first | omega | (simp; omega)) hzz ?_; intro v6 w6 hown6 hg6; have HG6 := putN_grow HN2.out HD hg6 hown6 HLEN.out; obtain ⟨a6, c6, L6, rfl, HL6, HST6⟩ := HG6; obtain ⟨q6, r6⟩ := putN_cell HN2.out HD hg6))
                        all_goals
                          clear hown6 hg6 HPART
                          generalize (if cn = p then some (⟨gn, 0, none⟩ : Addr) else some ⟨gn, p, none⟩) = ax
                          go_wp2_with fail
                          go_meet
                          case rel => exact ⟨a6, c6, L6, HL6, HST6⟩
                    case rest =>
                      obtain ⟨an3, cn3, N3, HM3, HN3⟩ := hcut
                      have HFIN : Hid (putK (.mk 7 n tx nm ks) name x = .mk 7 0 ⟨#[]⟩ N3 (ks.take p ++ x :: ks.drop p)) := by
                        show _ = _
                        rw [HPK.out, if_pos rfl, HM3.out, HM2.out, HM1.out, List.drop_zero, List.append_assoc, List.take_of_length_le (l := List.drop p nm) (by rw [List.length_drop]; omega)]
                        rfl
                      go_wp2_with fail
                      go_meet
                      case rel => exact ⟨wb, an3, cn3, N3, HFIN, HP3, HN3⟩
              · have HFIN : Hid (putK (.mk k n tx nm ks) name x = .mk k 0 ⟨#[]⟩ [] (ks.take p ++ x :: ks.drop p)) := by
                  show _ = _
                  rw [HPK.out, if_neg h7]
                have h7' : (k == 7) = false := by simpa using h7
                go_wp2_with fail
                go_meet
                case rel => exact ⟨wc, none, 0, [], HFIN, HP3, HP3.out.names⟩
            case rest =>
              obtain ⟨wb, an3, cn3, N3, HFIN, HPB, HN3⟩ := hcut
              clear HPK HP7 HPN7 HPN HI HNM HP3 b0 hcap hl hc hple
              have hdn := put_done (ts := ks.take p ++ x :: ks.drop p) HPB.out HN3.out HTL.out HTT.out _ rfl
              skip
              have HDN : Hid _ := hdn
              clear hdn
              obtain ⟨⟨v0, v1, v2, v3, v4⟩, y0, y1, y2, y3, y4⟩ := HN3.out.2.1
              obtain ⟨⟨t0, t1, t2, t3, t4⟩, _⟩ := HN3.out.2.2.1
              skip
              go_wp2_with fail
              obtain ⟨⟨⟨s0, s1, s2, s3, s4⟩, _⟩, _, _⟩ := id HDN.out
              exact bodyPost_ret (v := .agg #[.int .i64 k, .int .i64 0, .string ⟨#[]⟩, .slice an3 N3.length cn3, .slice a3 L3.length c3]) (by simp [results, Tryd.results29, go_sem, s0, s1, s2, s3, s4]) rfl ⟨_, _, _, _, _, _, _, _, _, rfl, by rw [HFIN.out]; exact HDN.out.2.1, HDN.out.2.2⟩

end Go.Proofs.YtbjifclgifkjmaaDoor
