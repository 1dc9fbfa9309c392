/- A tree with one part more: the specification's l1Put. A tree with another part at the place that names lead to: the specification's l3Set. -/
import Derived.Test.YtadlflgflnlhjaaGreatDoorL1Put
import Derived.Test.YtadlflgflnlhjaaGreatDoorRemIM
import Derived.Test.YtadlflgflnlhjaaGreatDoorSetG
import Derived.Deep.QuietTactic
import Derived.BigQuiet
namespace Go.Proofs.YtadlflgflnlhjaaGreatDoor
open Go.RowKit
set_option linter.unusedVariables false

set_option maxRecDepth 100000 in
set_option maxHeartbeats 12000000 in
theorem l1Put_any (S : Nat → Prop) (t x : Tr) (v vx : Value) (name : ByteArray) (w : World) (ht : TreeIs w S t v) (hx : TreeIs w S x vx) (hnd : t.named) (hc : t.kids.length ≤ 2 ^ 19) :
    Calls Tryz.prog 62 #[v, .string name, vx] w fun e w' => ∃ (k n : Int) (tx : ByteArray) (an : Option Addr) (mn cn : Nat) (ak : Option Addr) (mk ck : Nat), e = .returned (.agg #[.int .i64 k, .int .i64 n, .string tx, .slice an mn cn, .slice ak mk ck]) ∧ TreeIs w' (fun b => S b ∨ w.heap.size ≤ b) (putK t name x) (.agg #[.int .i64 k, .int .i64 n, .string tx, .slice an mn cn, .slice ak mk ck]) ∧ Below w.heap.size w w' := by
  obtain ⟨k, n, tx, nm, ks⟩ := t
  dsimp only [Tr.kids] at hc
  rw [Tr.named] at hnd
  obtain ⟨p, hp⟩ : ∃ p, p = putAt (.mk k n tx nm ks) name := ⟨_, rfl⟩
  have hple : p ≤ ks.length := by
    rw [hp, putAt]
    split
    · rename_i h7
      rw [← hnd.1 h7]
      exact putPos_le _ _
    · exact Nat.le_refl _
  have HPK : Hid (putK (.mk k n tx nm ks) name x = .mk k 0 ⟨#[]⟩ (if k = 7 then nm.take p ++ name :: nm.drop p else []) (ks.take p ++ x :: ks.drop p)) := by show _ = _; rw [putK, hp]
  have HP7 : Hid (k = 7 → p = putPos nm name ∧ nm.length = ks.length) := fun h7 => ⟨by rw [hp, putAt, if_pos h7], hnd.1 h7⟩
  have HPN7 : Hid (k ≠ 7 → p = ks.length) := fun h7 => by rw [hp, putAt, if_neg h7]
  obtain ⟨an, cn, ak, ck, rfl, hnm, hk⟩ := TreeIs.open ht
  have hcap : nm.length ≤ cn ∧ ks.length ≤ ck := TreeIs.caps ht
  have HPN : Hid (PN an cn ∧ PN ak ck) := TreeIs.pns ht
  obtain ⟨xan, xcn, xak, xck, rfl⟩ := (TreeIs.any hx).head
  have HX : Hid (TreeIs w S x (.agg #[.int .i64 x.kind, .int .i64 x.num, .string x.text, .slice xan x.names.length xcn, .slice xak x.kids.length xck])) := hx
  have HNM : Hid (∀ (W : World), Below w.heap.size w W → ∀ gn, an = some ⟨gn, 0, none⟩ → ∀ j, j < nm.length → W.cell? ⟨gn, j, none⟩ = some (.string (nm.getD j ByteArray.empty))) := fun W hW gn hgn j hj => by
    rcases hnm with h0 | ⟨gn', h1, _, h2, h3⟩
    · rw [h0] at hj; simp at hj
    · rw [hgn] at h1
      obtain rfl : gn = gn' := by simpa using h1
      exact (hW.cell h2).trans (h3 j hj)
  obtain ⟨l, hl, HSRC, HONE, HLT⟩ : ∃ l : List Five, l.length = ks.length ∧ Hid (∀ (W : World) (o m : Nat), Below w.heap.size w W → ∀ g, ak = some ⟨g, 0, none⟩ → ∀ (q : Nat) (u : Value), (fiveCells ((l.drop o).take m))[q]? = some u → W.cell? ((⟨g, o * 5, none⟩ : Addr).add q) = some u) ∧ Hid (∀ o m, ∀ u ∈ fiveCells ((l.drop o).take m), u.oneCell' = true) ∧ Hid (∀ (i : Nat) (y : Tr), ks[i]? = some y → ∃ f, l[i]? = some f ∧ TreeIs w S y f.agg) := by
    rcases hk with h0 | ⟨g, h1, _, h2, h3⟩
    · subst h0
      refine ⟨[], rfl, fun W o m _ g _ q u hu => ?_, fun o m u hu => ?_, fun i y hy => by simp at hy⟩
      · simp [fiveCells] at hu
      · simp [fiveCells] at hu
    · obtain ⟨l, hl, hlc, hlT, hone⟩ := kids_list (j := 0) (kidsAt_iff.2 (fun i x hx => by rw [Nat.zero_add]; exact h3 i x hx))
      refine ⟨l, hl, fun W o m hW g' hg' q u hu => ?_, fun o m => five_ones hone (fun f hf => List.mem_of_mem_drop (List.mem_of_mem_take hf)), hlT⟩
      obtain rfl : g' = g := by
        rw [h1] at hg'
        simpa using hg'.symm
      have := five_at (w := w) (g := g') (o := o) (l := (l.drop o).take m) (fun j f hf => by
        rw [List.getElem?_take] at hf
        split at hf
        · rw [List.getElem?_drop] at hf
          have := hlc (o + j) f hf
          rwa [Nat.zero_add] at this
        · simp at hf) q u hu
      rw [add_none] at this ⊢
      exact (hW.cell h2).trans this
  have HLN : Hid (∀ o m, o + m ≤ l.length → (fiveCells ((l.drop o).take m)).length = m * 5 ∧ ((l.drop o).take m).length = m) := fun o m h => ⟨by rw [five_len, List.length_take, List.length_drop, Nat.min_eq_left (by omega)], by rw [List.length_take, List.length_drop, Nat.min_eq_left (by omega)]⟩
  clear hnm hk hx ht hnd hp
  go_enter Tryz.func62, Tryz.ntmps62
  go_upto_if 14 with fail
  generalize hW0 : ((w.alloc (.cells #[.int .i64 k, .int .i64 n, .string tx, .slice an nm.length cn, .slice ak ks.length ck] 60)).alloc (.cells #[.int .i64 x.kind, .int .i64 x.num, .string x.text, .slice xan x.names.length xcn, .slice xak x.kids.length xck] 60)).alloc (.cells #[.int .i64 0, .int .i64 0, .string ⟨#[]⟩, .slice none 0 0, .slice none 0 0] 60) = W0
  have hs0 : W0.heap.size = w.heap.size + 3 := by rw [← hW0]; simp
  have HB0 : Hid (Below w.heap.size w W0) := by show Below _ _ _; rw [← hW0]; exact (((Below.refl _ w).alloc (Nat.le_refl _) _).alloc (by simp) _).alloc (by simp; omega) _
  have HV : Hid (FiveAt W0 w.heap.size (.int .i64 k) (.int .i64 n) (.string tx) (.slice an nm.length cn) (.slice ak ks.length ck)) := by
    show FiveAt _ _ _ _ _ _ _
    rw [← hW0]
    exact (fiveAt_new w _ _ _ _ _ _).below (((Below.refl _ _).alloc (Nat.le_refl _) _).alloc (by simp) _) (by simp)
  have HXB : Hid (FiveAt W0 (w.heap.size + 1) (.int .i64 x.kind) (.int .i64 x.num) (.string x.text) (.slice xan x.names.length xcn) (.slice xak x.kids.length xck)) := by
    show FiveAt _ _ _ _ _ _ _
    rw [← hW0]
    have := fiveAt_new (w.alloc (.cells #[.int .i64 k, .int .i64 n, .string tx, .slice an nm.length cn, .slice ak ks.length ck] 60)) (.int .i64 x.kind) (.int .i64 x.num) (.string x.text) (.slice xan x.names.length xcn) (.slice xak x.kids.length xck) 60
    rw [World.size_alloc] at this
    exact this.below ((Below.refl _ _).alloc (Nat.le_refl _) _) (by simp)
  have HZB : Hid (FiveAt W0 (w.heap.size + 1 + 1) (.int .i64 0) (.int .i64 0) (.string ⟨#[]⟩) (.slice none 0 0) (.slice none 0 0)) := by
    show FiveAt _ _ _ _ _ _ _
    rw [← hW0]
    have := fiveAt_new ((w.alloc (.cells #[.int .i64 k, .int .i64 n, .string tx, .slice an nm.length cn, .slice ak ks.length ck] 60)).alloc (.cells #[.int .i64 x.kind, .int .i64 x.num, .string x.text, .slice xan x.names.length xcn, .slice xak x.kids.length xck] 60)) (.int .i64 0) (.int .i64 0) (.string ⟨#[]⟩) (.slice none 0 0) (.slice none 0 0) 60
    rw [World.size_alloc, World.size_alloc] at this
    exact this
  clear hW0
  go_cut [7] (fun q wx => q = .int .i64 (p : Int) ∧ wx = W0)
  case first =>
    by_cases h7 : k = 7
    · subst h7
      obtain ⟨HQ1, HQ2⟩ := HP7.out rfl
      have hq2 : nm.length ≤ 2 ^ 19 := by omega
      have HQ : Hid (p = putPos nm name) := HQ1
      have a3 := HV.out.1.2.2.2.1
      have HNC : Hid (∀ j, j < nm.length → ∃ gn, an = some ⟨gn, 0, none⟩ ∧ W0.cell? ⟨gn, j, none⟩ = some (.string (nm.getD j ByteArray.empty))) := fun j hj => by
        rcases HPN.out.1 with ⟨_, h0⟩ | ⟨gn, h1⟩
        · omega
        · exact ⟨gn, h1, HNM.out W0 HB0.out gn h1 j hj⟩
      clear HQ1 HQ2
      go_wp2_with fail
      go_loopw [7] (fun q wr => ∃ j : Nat, j ≤ nm.length ∧ q = .int .i64 (j : Int) ∧ Hid (∀ i y, i < j → nm[i]? = some y → leB y name = true) ∧ W0 = wr) (fun q _ => nm.length - (intOf q).toNat)
      case atStart => exact ⟨0, Nat.zero_le _, rfl, fun i y h => by omega, rfl⟩
      case round =>
        obtain ⟨j, hj, rfl, HA, rfl⟩ := hrel
        by_cases hlt : j < nm.length
        · obtain ⟨gn, rfl, hcj⟩ := HNC.out j hlt
          obtain ⟨y, hy⟩ : ∃ y, y = nm.getD j ByteArray.empty := ⟨_, rfl⟩
          have HY : Hid (nm[j]? = some y) := by show _ = _; rw [hy, List.getD_eq_getElem?_getD, List.getElem?_eq_getElem hlt]; rfl
          rw [← hy] at hcj
          clear hy
          have j0 : (0 : Int) ≤ (j : Int) := by omega
          have j1 : (j : Int) < (nm.length : Int) := by omega
          cases hle : (Op.bytesLess y.toList name.toList || y.toList == name.toList) with
          | true =>
            have HA2 : Hid (∀ i z, i < j + 1 → nm[i]? = some z → leB z name = true) := fun i z hi hz => by
              by_cases e : i = j
              · subst e
                obtain rfl := Option.some.inj (HY.out.symm.trans hz)
                exact hle
              · exact HA.out i z (by omega) hz
            go_wp2
            go_roundw
            case rel => exact ⟨j + 1, by omega, by go_num, HA2, trivial⟩
            case measure => simp [intOf]; omega
          | false =>
            have HE : Hid (p = j) := HQ.out.trans (putPos_at HA.out hj (fun z hz => by
              obtain rfl := Option.some.inj (HY.out.symm.trans hz)
              exact hle))
            go_wp2
            go_meet
            case rel => exact ⟨by rw [HE.out], rfl⟩
        · obtain rfl : j = nm.length := by omega
          have HE : Hid (p = nm.length) := HQ.out.trans (putPos_at HA.out hj (fun z hz => by simp at hz))
          go_wp2
          go_meet
          case rel => exact ⟨by rw [HE.out], rfl⟩
    · have HE : Hid (p = ks.length) := HPN7.out h7
      go_wp2_with fail
      go_meet
      case rel => exact ⟨by rw [HE.out], rfl⟩
  case rest =>
    obtain ⟨rfl, hwc⟩ := hcut
    subst hwc
    obtain ⟨V, hV⟩ : ∃ V : Five, V = ⟨.int .i64 k, .int .i64 n, .string tx, .slice an nm.length cn, .slice ak ks.length ck⟩ := ⟨_, rfl⟩
    obtain ⟨X, hX⟩ : ∃ X : Five, X = ⟨.int .i64 x.kind, .int .i64 x.num, .string x.text, .slice xan x.names.length xcn, .slice xak x.kids.length xck⟩ := ⟨_, rfl⟩
    obtain ⟨i5, h50, h51, h52, h53⟩ := info_parts infoV
    have HI : Hid (Tryz.prog.info? 60 = some i5 ∧ i5.zero = some (.agg #[.int .i64 0, .int .i64 0, .string ⟨#[]⟩, .slice none 0 0, .slice none 0 0]) ∧ i5.size = 5 ∧ i5.bytes = 80) := ⟨h50, h51, h52, h53⟩
    clear h50 h51 h52 h53
    go_upto_region 6 with fail
    go_cut [8] (fun q wx => q = .pointer (some ⟨w.heap.size + 1 + 1 + 1, 0, none⟩) ∧ Hid (PutSt w wx V X (.int .i64 k) (.slice none 0 0) none 0 []))
    case first =>
      have b0 := HV.out.1.1
      have HO : Hid (PutSt w (wc.alloc (.cells #[.int .i64 k, .int .i64 0, .string ⟨#[]⟩, .slice none 0 0, .slice none 0 0] 60)) V X (.int .i64 k) (.slice none 0 0) none 0 []) := by
        have ha : ∀ o, Below wc.heap.size wc (wc.alloc o) := fun o => (Below.refl _ _).alloc (Nat.le_refl _) o
        subst hV hX
        refine ⟨HV.out.below (ha _) (by omega), HXB.out.below (ha _) (by omega), HZB.out.below (ha _) (by omega), ?_, World.ownsRow_nil _ _ _ _, by simp; omega, HB0.out.trans ((ha _).mono HB0.out.size)⟩
        have := fiveAt_new wc (.int .i64 k) (.int .i64 0) (.string ⟨#[]⟩) (.slice none 0 0) (.slice none 0 0) 60
        rw [hs0] at this
        exact this
      go_wp2_with fail
      go_meet
      case rel => exact ⟨rfl, HO⟩
    case rest =>
      obtain ⟨rfl, HP⟩ := hcut
      clear hs0 HB0 HV HXB HZB
      go_upto_region 7 with fail
      go_cut [] (fun wx => ∃ a2 c2 L, Hid (L = (l.drop 0).take p) ∧ Hid (PutSt w wx V X (.int .i64 k) (.slice none 0 0) a2 c2 L))
      case first =>
        have HD : Below wc.heap.size wc wc.drew := Below.drew (Below.refl wc.heap.size wc)
        have HBW : Hid (Below w.heap.size w wc.drew) := HP.out.2.2.2.2.2.2.trans (HD.mono HP.out.2.2.2.2.2.2.size)
        have hzz : w.heap.size + 4 ≤ wc.heap.size := HP.out.2.2.2.2.2.1
        have b4 : wc.cell? ⟨w.heap.size, 4, none⟩ = some (.slice ak ks.length ck) := by have := HP.out.1.1.2.2.2.2; rw [hV] at this; exact this
        have o4 := HP.out.2.2.2.1.1.2.2.2.2
        have g4 := HP.out.2.2.2.1.2.2.2.2.2
        have HOE : Hid (wc.drew.ownsRow (w.heap.size + 4) 60 5 (.slice none ([] : List Five).length 0) ([] : List Five).length (fiveCells ([] : List Five))) := HP.out.2.2.2.2.1
        rcases HPN.out.2 with ⟨hak, hck⟩ | ⟨g, rfl⟩
        · subst hak hck
          obtain rfl : ks = [] := List.eq_nil_of_length_eq_zero (by omega)
          obtain rfl : l = [] := List.eq_nil_of_length_eq_zero (by simpa using hl)
          obtain rfl : p = 0 := by simpa using hple
          simp only [List.length_nil] at b4
          have HLEN : Hid (((([] : List Five).drop 0).take 0).length = 0) := rfl
          have HPART : Hid (PartF wc.drew none 0 0 5 (fiveCells ((([] : List Five).drop 0).take 0))) := ⟨rfl, fun u hu => by simp [fiveCells] at hu, .inl ⟨rfl, rfl, rfl⟩⟩
          go_region_law (first | (refine step_append_part (by rfl) _ _ 58 (by rfl) (w.heap.size + 4) 60 i5 _ 5 80 Tryz.underlying58 HI.out.1 HI.out.2.1 HI.out.2.2.1 HI.out.2.2.2 rfl (by decide) (.slice none ([] : List Five).length 0) ([] : List Five).length (fiveCells ([] : List Five)) (by rfl) HOE.out none 0 0 (fiveCells ((([] : List Five).drop 0).take 0)) (by rfl) HPART.out (by unfold maxLen; first | omega | (simp; omega)) (by first | omega | (simp; omega)) hzz ?_; intro v6 w6 hown6 hg6; have HG6 := put_grow HP.out HD hg6 hown6 HLEN.out; obtain ⟨a6, c6, L6, rfl, HL6, HST6⟩ := HG6; obtain ⟨q6, r6⟩ := put_cell HP.out HD hg6))
          all_goals
            clear hown6 hg6 HPART
            skip
            go_wp2_with fail
            go_meet
            case rel => exact ⟨a6, c6, L6, HL6, HST6⟩
        · skip
          have i0 : (0 : Int) ≤ (p : Int) := by omega
          have i1 : (p : Int) ≤ (ck : Int) := by omega
          have i2 : p ≤ ck := by omega
          have HLEN : Hid (((l.drop 0).take p).length = p) := (HLN.out 0 p (by omega)).2
          have HPART : Hid (PartF wc.drew (some ⟨g, 0, none⟩) p ck 5 (fiveCells ((l.drop 0).take p))) := ⟨(HLN.out 0 p (by omega)).1, HONE.out 0 p, .inr ⟨⟨g, 0, none⟩, rfl, fun q u hu => by have := HSRC.out wc.drew 0 p HBW.out g rfl q u hu; rwa [Nat.zero_mul] at this⟩⟩
          go_region_law (first | (refine step_append_part (by rfl) _ _ 58 (by rfl) (w.heap.size + 4) 60 i5 _ 5 80 Tryz.underlying58 HI.out.1 HI.out.2.1 HI.out.2.2.1 HI.out.2.2.2 rfl (by decide) (.slice none ([] : List Five).length 0) ([] : List Five).length (fiveCells ([] : List Five)) (by rfl) HOE.out (some ⟨g, 0, none⟩) p ck (fiveCells ((l.drop 0).take p)) (by rfl) HPART.out (by unfold maxLen; first | omega | (simp; omega)) (by first | omega | (simp; omega)) hzz ?_; intro v6 w6 hown6 hg6; have HG6 := put_grow HP.out HD hg6 hown6 HLEN.out; obtain ⟨a6, c6, L6, rfl, HL6, HST6⟩ := HG6; obtain ⟨q6, r6⟩ := put_cell HP.out HD hg6))
          all_goals
            clear hown6 hg6 HPART
            skip
            go_wp2_with fail
            go_meet
            case rel => exact ⟨a6, c6, L6, HL6, HST6⟩
      case rest =>
        obtain ⟨a1, c1, L1, HL1, HP1⟩ := hcut
        clear HP
        have HLL1 : Hid (L1.length = p) := by show _ = _; rw [HL1.out]; exact (HLN.out 0 p (by omega)).2
        have hLb1 : L1.length ≤ 2 ^ 19 := by have := HLL1.out; omega
        go_upto_region 8 with fail
        go_cut [] (fun wx => ∃ a2 c2 L, Hid (L = L1 ++ [X]) ∧ Hid (PutSt w wx V X (.int .i64 k) (.slice none 0 0) a2 c2 L))
        case first =>
          have hzz : w.heap.size + 4 ≤ wc.heap.size := HP1.out.2.2.2.2.2.1
          obtain ⟨⟨p0, p1, p2, p3, p4⟩, _⟩ := HP1.out.2.1
          have HOX : Hid (∀ u ∈ fiveCells [X], u.oneCell' = true) := by
            subst hX
            intro u hu
            simp [fiveCells, Five.cells] at hu
            rcases hu with rfl | rfl | rfl | rfl | rfl <;> rfl
          have HXE : Hid (X = ⟨.int .i64 x.kind, .int .i64 x.num, .string x.text, .slice xan x.names.length xcn, .slice xak x.kids.length xck⟩) := hX
          rw [hX] at p0 p1 p2 p3 p4
          dsimp only at p0 p1 p2 p3 p4
          have o4 := HP1.out.2.2.2.1.1.2.2.2.2
          have g4 := HP1.out.2.2.2.1.2.2.2.2.2
          have HD : ∀ o, Below wc.heap.size wc (wc.alloc o) := fun o => (Below.refl _ _).alloc (Nat.le_refl _) o
          have HOE : Hid (∀ o, (wc.alloc o).ownsRow (w.heap.size + 4) 60 5 (.slice a1 L1.length c1) L1.length (fiveCells L1)) := fun o => World.ownsRow.alloc HP1.out.2.2.2.2.1 o
          have HNC : Hid (∀ j u, (fiveCells [X])[j]? = some u → (wc.alloc (.cells #[.int .i64 x.kind, .int .i64 x.num, .string x.text, .slice xan x.names.length xcn, .slice xak x.kids.length xck] 60)).cell? ((⟨wc.heap.size, 0, none⟩ : Addr).add j) = some u) := fun j u hu => by
            rw [HXE.out] at hu
            rw [add_none, Nat.zero_add, World.cell?_alloc_new]
            simpa [fiveCells, Five.cells] using hu
          clear hX
          go_wp2_with (first | (at_builtin; refine wpList_append_own _ rfl _ _ 58 rfl (w.heap.size + 4) 60 i5 _ 5 80 Tryz.underlying58 HI.out.1 HI.out.2.1 HI.out.2.2.1 HI.out.2.2.2 rfl (by decide) (.slice a1 L1.length c1) L1.length (fiveCells L1) rfl (HOE.out _) ⟨wc.heap.size, 0, none⟩ 1 1 (fiveCells [X]) rfl rfl HNC.out HOX.out (by unfold maxLen; omega) (by omega) (by simp; omega) ?_))
          intro v6 w6 hown6 hg6 _
          obtain ⟨a6, c6, L6, rfl, HL6, HST6⟩ := put_grow (m := 1) (l' := [X]) HP1.out (HD _) hg6 hown6 rfl
          obtain ⟨q6, r6⟩ := put_cell HP1.out (HD _) hg6
          clear hown6 hg6 HNC
          go_wp2_with fail
          go_meet
          case rel => exact ⟨a6, c6, L6, HL6, HST6⟩
        case rest =>
          obtain ⟨a2, c2, L2, HL2, HP2⟩ := hcut
          clear HP1
          have HLL2 : Hid (L2.length = p + 1) := by show _ = _; rw [HL2.out, List.length_append, HLL1.out]; rfl
          have hLb2 : L2.length ≤ 2 ^ 20 := by have := HLL2.out; omega
          go_upto_region 9 with fail
          go_cut [] (fun wx => ∃ a2 c2 L, Hid (L = L2 ++ (l.drop p).take (ks.length - p)) ∧ Hid (PutSt w wx V X (.int .i64 k) (.slice none 0 0) a2 c2 L))
          case first =>
            have HD : Below wc.heap.size wc wc.drew := Below.drew (Below.refl wc.heap.size wc)
            have HBW : Hid (Below w.heap.size w wc.drew) := HP2.out.2.2.2.2.2.2.trans (HD.mono HP2.out.2.2.2.2.2.2.size)
            have hzz : w.heap.size + 4 ≤ wc.heap.size := HP2.out.2.2.2.2.2.1
            have b4 : wc.cell? ⟨w.heap.size, 4, none⟩ = some (.slice ak ks.length ck) := by have := HP2.out.1.1.2.2.2.2; rw [hV] at this; exact this
            have o4 := HP2.out.2.2.2.1.1.2.2.2.2
            have g4 := HP2.out.2.2.2.1.2.2.2.2.2
            have HOE : Hid (wc.drew.ownsRow (w.heap.size + 4) 60 5 (.slice a2 L2.length c2) L2.length (fiveCells L2)) := HP2.out.2.2.2.2.1
            rcases HPN.out.2 with ⟨hak, hck⟩ | ⟨g, rfl⟩
            · subst hak hck
              obtain rfl : ks = [] := List.eq_nil_of_length_eq_zero (by omega)
              obtain rfl : l = [] := List.eq_nil_of_length_eq_zero (by simpa using hl)
              obtain rfl : p = 0 := by simpa using hple
              simp only [List.length_nil] at b4
              have HLEN : Hid (((([] : List Five).drop 0).take (([] : List Tr).length - 0)).length = 0) := rfl
              have HPART : Hid (PartF wc.drew none 0 0 5 (fiveCells ((([] : List Five).drop 0).take (([] : List Tr).length - 0)))) := ⟨rfl, fun u hu => by simp [fiveCells] at hu, .inl ⟨rfl, rfl, rfl⟩⟩
              go_region_law (first | (refine step_append_part (by rfl) _ _ 58 (by rfl) (w.heap.size + 4) 60 i5 _ 5 80 Tryz.underlying58 HI.out.1 HI.out.2.1 HI.out.2.2.1 HI.out.2.2.2 rfl (by decide) (.slice a2 L2.length c2) L2.length (fiveCells L2) (by rfl) HOE.out none 0 0 (fiveCells ((([] : List Five).drop 0).take (([] : List Tr).length - 0))) (by rfl) HPART.out (by unfold maxLen; first | omega | (simp; omega)) (by first | omega | (simp; omega)) hzz ?_; intro v6 w6 hown6 hg6; have HG6 := put_grow HP2.out HD hg6 hown6 HLEN.out; obtain ⟨a6, c6, L6, rfl, HL6, HST6⟩ := HG6; obtain ⟨q6, r6⟩ := put_cell HP2.out HD hg6))
              all_goals
                clear hown6 hg6 HPART
                skip
                go_wp2_with fail
                go_meet
                case rel => exact ⟨a6, c6, L6, HL6, HST6⟩
            · skip
              have i0 : (0 : Int) ≤ (p : Int) := by omega
              have i1 : (p : Int) ≤ (ks.length : Int) := by omega
              have i2 : p ≤ ks.length := by omega
              have i3 : ks.length ≤ ck := by omega
              have i4 : (ks.length : Int) ≤ (ck : Int) := by omega
              have HLEN : Hid (((l.drop p).take (ks.length - p)).length = ks.length - p) := (HLN.out p (ks.length - p) (by omega)).2
              have HPART : Hid (PartF wc.drew (if ck = p then some ⟨g, 0, none⟩ else some ⟨g, p * 5, none⟩) (ks.length - p) (ck - p) 5 (fiveCells ((l.drop p).take (ks.length - p)))) := by
                refine ⟨(HLN.out p (ks.length - p) (by omega)).1, HONE.out p _, .inr ?_⟩
                by_cases e : ck = p
                · refine ⟨⟨g, 0, none⟩, by rw [if_pos e], fun q u hu => ?_⟩
                  rw [show ks.length - p = 0 by omega] at hu
                  simp [fiveCells] at hu
                · exact ⟨⟨g, p * 5, none⟩, by rw [if_neg e], HSRC.out wc.drew p _ HBW.out g rfl⟩
              go_region_law (first | (refine step_append_part (by rfl) _ _ 58 (by rfl) (w.heap.size + 4) 60 i5 _ 5 80 Tryz.underlying58 HI.out.1 HI.out.2.1 HI.out.2.2.1 HI.out.2.2.2 rfl (by decide) (.slice a2 L2.length c2) L2.length (fiveCells L2) (by rfl) HOE.out (if ck = p then some ⟨g, 0, none⟩ else some ⟨g, p * 5, none⟩) (ks.length - p) (ck - p) (fiveCells ((l.drop p).take (ks.length - p))) (by rfl) HPART.out (by unfold maxLen; first | omega | (simp; omega)) (by first | omega | (simp; omega)) hzz ?_; intro v6 w6 hown6 hg6; have HG6 := put_grow HP2.out HD hg6 hown6 HLEN.out; obtain ⟨a6, c6, L6, rfl, HL6, HST6⟩ := HG6; obtain ⟨q6, r6⟩ := put_cell HP2.out HD hg6))
              all_goals
                clear hown6 hg6 HPART
                generalize (if ck = p then some (⟨g, 0, none⟩ : Addr) else some ⟨g, p * 5, none⟩) = ax
                go_wp2_with fail
                go_meet
                case rel => exact ⟨a6, c6, L6, HL6, HST6⟩
          case rest =>
            obtain ⟨a3, c3, L3, HL3, HP3⟩ := hcut
            have HLE : Hid (L3 = l.take p ++ X :: l.drop p) := by
              show _ = _
              rw [HL3.out, HL2.out, HL1.out, List.drop_zero, List.append_assoc, List.take_of_length_le (l := List.drop p l) (by rw [List.length_drop]; omega)]
              rfl
            have HTL : Hid (L3.length = (ks.take p ++ x :: ks.drop p).length) := by
              show _ = _
              rw [HLE.out]
              simp [hl]
            have HTT : Hid (∀ (i : Nat) (y : Tr) (f : Five), (ks.take p ++ x :: ks.drop p)[i]? = some y → L3[i]? = some f → TreeIs w S y f.agg) := fun i y f hy hf => by
              rw [HLE.out] at hf
              rcases Nat.lt_trichotomy i p with h | h | h
              · rw [List.getElem?_append_left (by rw [List.length_take]; omega), List.getElem?_take, if_pos h] at hy hf
                obtain ⟨f', hf', htr⟩ := HLT.out i y hy
                obtain rfl := Option.some.inj (hf.symm.trans hf')
                exact htr
              · subst h
                rw [List.getElem?_append_right (by rw [List.length_take]; omega), List.length_take, Nat.min_eq_left (by omega), Nat.sub_self] at hy hf
                simp only [List.getElem?_cons_zero, Option.some.injEq] at hy hf
                subst hy hf
                rw [hX]
                exact HX.out
              · rw [List.getElem?_append_right (by rw [List.length_take]; omega), List.length_take, Nat.min_eq_left (by omega)] at hy hf
                obtain ⟨d, rfl⟩ : ∃ d, i = p + 1 + d := ⟨i - (p + 1), by omega⟩
                rw [show p + 1 + d - p = d + 1 by omega, List.getElem?_cons_succ, List.getElem?_drop] at hy hf
                obtain ⟨f', hf', htr⟩ := HLT.out (p + d) y hy
                obtain rfl := Option.some.inj (hf.symm.trans hf')
                exact htr
            clear HP2 HSRC HONE HL1 HL2 HL3 HLE hLb1 hLb2 HLL1 HLL2 HX HLT HLN
            have b0 : wc.cell? ⟨w.heap.size, 0, none⟩ = some (.int .i64 k) := by have := HP3.out.1.1.1; rw [hV] at this; exact this
            go_upto_if 58 with fail
            go_cut [] (fun wx => ∃ wb a1 c1 nms, Hid (putK (.mk k n tx nm ks) name x = .mk k 0 ⟨#[]⟩ nms (ks.take p ++ x :: ks.drop p)) ∧ Hid (PutSt w wb V X (.int .i64 k) (.slice none 0 0) a3 c3 L3) ∧ Hid (PutN w wb wx V (.int .i64 k) (.slice a3 L3.length c3) a1 c1 nms))
            case first =>
              by_cases h7 : k = 7
              · subst h7
                have hnl := (HP7.out rfl).2
                have hq2 : nm.length ≤ 2 ^ 19 := by omega
                have hpn : p ≤ nm.length := by omega
                clear hnl
                obtain ⟨iS, h50, h51, h52, h53⟩ := info_parts infoStr
                have HJ : Hid (Tryz.prog.info? 9 = some iS ∧ iS.zero = some (.string ⟨#[]⟩) ∧ iS.size = 1 ∧ iS.bytes = 16) := ⟨h50, h51, h52, h53⟩
                clear h50 h51 h52 h53 hl hple hc HTL HTT
                have HSN : Hid (∀ (W : World) (o m : Nat), Below w.heap.size w W → ∀ gn, an = some ⟨gn, 0, none⟩ → ∀ (q : Nat) (u : Value), (((nm.drop o).take m).map Value.string)[q]? = some u → W.cell? ((⟨gn, o, none⟩ : Addr).add q) = some u) := fun W o m hW gn hgn => nams_cells (HNM.out W hW gn hgn) o _ (fun q x hx => by
                  rw [List.getElem?_take] at hx
                  split at hx
                  · rwa [List.getElem?_drop] at hx
                  · simp at hx)
                have HLM : Hid (∀ o m, o + m ≤ nm.length → (((nm.drop o).take m).map Value.string).length = m * 1 ∧ ((nm.drop o).take m).length = m) := fun o m h => ⟨by rw [List.length_map, List.length_take, List.length_drop, Nat.min_eq_left (by omega), Nat.mul_one], by rw [List.length_take, List.length_drop, Nat.min_eq_left (by omega)]⟩
                obtain ⟨wb, hwb⟩ : ∃ wb, wb = wc := ⟨_, rfl⟩
                subst hwb
                have HN0 : Hid (PutN w wb wb V (.int .i64 7) (.slice a3 L3.length c3) none 0 []) := HP3.out.names
                clear HNM
                go_upto_region 11 with fail
                go_cut [] (fun wx => ∃ a2 c2 L, Hid (L = (nm.drop 0).take p) ∧ Hid (PutN w wb wx V (.int .i64 7) (.slice a3 L3.length c3) a2 c2 L))
                case first =>
                  have HD : Below wb.heap.size wb wb.drew := Below.drew (Below.refl wb.heap.size wb)
                  have HBW : Hid (Below w.heap.size w wb.drew) := HN0.out.2.2.2.2.2.2.2.trans (HD.mono HN0.out.2.2.2.2.2.2.2.size)
                  have hzz : wb.heap.size ≤ wb.heap.size := HN0.out.2.2.2.2.2.1
                  have b3 : wb.cell? ⟨w.heap.size, 3, none⟩ = some (.slice an nm.length cn) := by have := HN0.out.1.1.2.2.2.1; rw [hV] at this; exact this
                  have o3 := HN0.out.2.2.1.1.2.2.2.1
                  have g3 := HN0.out.2.2.1.2.2.2.2.1
                  have HOE : Hid (wb.drew.ownsRow wb.heap.size 9 1 (.slice none ([] : List ByteArray).length 0) ([] : List ByteArray).length (([] : List ByteArray).map Value.string)) := HN0.out.2.2.2.1
                  rcases HPN.out.1 with ⟨han, hcn⟩ | ⟨gn, rfl⟩
                  · subst han hcn
                    obtain rfl : nm = [] := List.eq_nil_of_length_eq_zero (by omega)
                    obtain rfl : p = 0 := by simpa using hpn
                    simp only [List.length_nil] at b3
                    have HLEN : Hid (((([] : List ByteArray).drop 0).take 0).length = 0) := rfl
                    have HPART : Hid (PartF wb.drew none 0 0 1 (((([] : List ByteArray).drop 0).take 0).map Value.string)) := ⟨rfl, fun u hu => by simp at hu, .inl ⟨rfl, rfl, rfl⟩⟩
                    go_region_law (first | (refine step_append_part (by rfl) _ _ 54 (by rfl) wb.heap.size 9 iS _ 1 16 Tryz.underlying54 HJ.out.1 HJ.out.2.1 HJ.out.2.2.1 HJ.out.2.2.2 rfl (by decide) (.slice none ([] : List ByteArray).length 0) ([] : List ByteArray).length (([] : List ByteArray).map Value.string) (by rfl) HOE.out none 0 0 (((([] : List ByteArray).drop 0).take 0).map Value.string) (by rfl) HPART.out (by unfold maxLen; first | omega | (simp; omega)) (by first | omega | (simp; omega)) hzz ?_; intro v6 w6 hown6 hg6; have HG6 := putN_grow HN0.out HD hg6 hown6 HLEN.out; obtain ⟨a6, c6, L6, rfl, HL6, HST6⟩ := HG6; obtain ⟨q6, r6⟩ := putN_cell HN0.out HD hg6))
                    all_goals
                      clear hown6 hg6 HPART
                      skip
                      go_wp2_with fail
                      go_meet
                      case rel => exact ⟨a6, c6, L6, HL6, HST6⟩
                  · skip
                    have i0 : (0 : Int) ≤ (p : Int) := by omega
                    have i1 : (p : Int) ≤ (cn : Int) := by omega
                    have i2 : p ≤ cn := by omega
                    have HLEN : Hid (((nm.drop 0).take p).length = p) := (HLM.out 0 p (by omega)).2
                    have HPART : Hid (PartF wb.drew (some ⟨gn, 0, none⟩) p cn 1 (((nm.drop 0).take p).map Value.string)) := ⟨(HLM.out 0 p (by omega)).1, str_ones _, .inr ⟨⟨gn, 0, none⟩, rfl, HSN.out wb.drew 0 p HBW.out gn rfl⟩⟩
                    go_region_law (first | (refine step_append_part (by rfl) _ _ 54 (by rfl) wb.heap.size 9 iS _ 1 16 Tryz.underlying54 HJ.out.1 HJ.out.2.1 HJ.out.2.2.1 HJ.out.2.2.2 rfl (by decide) (.slice none ([] : List ByteArray).length 0) ([] : List ByteArray).length (([] : List ByteArray).map Value.string) (by rfl) HOE.out (some ⟨gn, 0, none⟩) p cn (((nm.drop 0).take p).map Value.string) (by rfl) HPART.out (by unfold maxLen; first | omega | (simp; omega)) (by first | omega | (simp; omega)) hzz ?_; intro v6 w6 hown6 hg6; have HG6 := putN_grow HN0.out HD hg6 hown6 HLEN.out; obtain ⟨a6, c6, L6, rfl, HL6, HST6⟩ := HG6; obtain ⟨q6, r6⟩ := putN_cell HN0.out HD hg6))
                    all_goals
                      clear hown6 hg6 HPART
                      skip
                      go_wp2_with fail
                      go_meet
                      case rel => exact ⟨a6, c6, L6, HL6, HST6⟩
                case rest =>
                  obtain ⟨an1, cn1, N1, HM1, HN1⟩ := hcut
                  clear HN0
                  have HNN1 : Hid (N1.length = p) := by show _ = _; rw [HM1.out]; exact (HLM.out 0 p (by omega)).2
                  have hNb1 : N1.length ≤ 2 ^ 19 := by have := HNN1.out; omega
                  go_upto_region 12 with fail
                  go_cut [] (fun wx => ∃ a2 c2 L, Hid (L = N1 ++ [name]) ∧ Hid (PutN w wb wx V (.int .i64 7) (.slice a3 L3.length c3) a2 c2 L))
                  case first =>
                    have hzz : wb.heap.size ≤ wc.heap.size := HN1.out.2.2.2.2.2.1
                    have o3 := HN1.out.2.2.1.1.2.2.2.1
                    have g3 := HN1.out.2.2.1.2.2.2.2.1
                    have HD : ∀ o, Below wc.heap.size wc (wc.alloc o) := fun o => (Below.refl _ _).alloc (Nat.le_refl _) o
                    have HOE : Hid (∀ o, (wc.alloc o).ownsRow wb.heap.size 9 1 (.slice an1 N1.length cn1) N1.length (N1.map Value.string)) := fun o => World.ownsRow.alloc HN1.out.2.2.2.1 o
                    have HNC : Hid (∀ j u, ([name].map Value.string)[j]? = some u → (wc.alloc (.cells #[.string name] 9)).cell? ((⟨wc.heap.size, 0, none⟩ : Addr).add j) = some u) := fun j u hu => by
                      rw [add_none, Nat.zero_add, World.cell?_alloc_new]
                      simpa using hu
                    have HON : Hid (∀ u ∈ [name].map Value.string, u.oneCell' = true) := str_ones _
                    go_wp2_with (first | (at_builtin; refine wpList_append_own _ rfl _ _ 54 rfl wb.heap.size 9 iS _ 1 16 Tryz.underlying54 HJ.out.1 HJ.out.2.1 HJ.out.2.2.1 HJ.out.2.2.2 rfl (by decide) (.slice an1 N1.length cn1) N1.length (N1.map Value.string) rfl (HOE.out _) ⟨wc.heap.size, 0, none⟩ 1 1 ([name].map Value.string) rfl rfl HNC.out HON.out (by unfold maxLen; omega) (by omega) (by simp; omega) ?_))
                    intro v6 w6 hown6 hg6 _
                    obtain ⟨a6, c6, L6, rfl, HL6, HST6⟩ := putN_grow (m := 1) (l' := [name]) HN1.out (HD _) hg6 hown6 rfl
                    obtain ⟨q6, r6⟩ := putN_cell HN1.out (HD _) hg6
                    clear hown6 hg6 HNC
                    go_wp2_with fail
                    go_meet
                    case rel => exact ⟨a6, c6, L6, HL6, HST6⟩
                  case rest =>
                    obtain ⟨an2, cn2, N2, HM2, HN2⟩ := hcut
                    clear HN1
                    have HNN2 : Hid (N2.length = p + 1) := by show _ = _; rw [HM2.out, List.length_append, HNN1.out]; rfl
                    have hNb2 : N2.length ≤ 2 ^ 20 := by have := HNN2.out; omega
                    go_upto_region 13 with fail
                    go_cut [] (fun wx => ∃ a2 c2 L, Hid (L = N2 ++ (nm.drop p).take (nm.length - p)) ∧ Hid (PutN w wb wx V (.int .i64 7) (.slice a3 L3.length c3) a2 c2 L))
                    case first =>
                      have HD : Below wc.heap.size wc wc.drew := Below.drew (Below.refl wc.heap.size wc)
                      have HBW : Hid (Below w.heap.size w wc.drew) := HN2.out.2.2.2.2.2.2.2.trans (HD.mono HN2.out.2.2.2.2.2.2.2.size)
                      have hzz : wb.heap.size ≤ wc.heap.size := HN2.out.2.2.2.2.2.1
                      have b3 : wc.cell? ⟨w.heap.size, 3, none⟩ = some (.slice an nm.length cn) := by have := HN2.out.1.1.2.2.2.1; rw [hV] at this; exact this
                      have o3 := HN2.out.2.2.1.1.2.2.2.1
                      have g3 := HN2.out.2.2.1.2.2.2.2.1
                      have HOE : Hid (wc.drew.ownsRow wb.heap.size 9 1 (.slice an2 N2.length cn2) N2.length (N2.map Value.string)) := HN2.out.2.2.2.1
                      rcases HPN.out.1 with ⟨han, hcn⟩ | ⟨gn, rfl⟩
                      · subst han hcn
                        obtain rfl : nm = [] := List.eq_nil_of_length_eq_zero (by omega)
                        obtain rfl : p = 0 := by simpa using hpn
                        simp only [List.length_nil] at b3
                        have HLEN : Hid (((([] : List ByteArray).drop 0).take (([] : List ByteArray).length - 0)).length = 0) := rfl
                        have HPART : Hid (PartF wc.drew none 0 0 1 (((([] : List ByteArray).drop 0).take (([] : List ByteArray).length - 0)).map Value.string)) := ⟨rfl, fun u hu => by simp at hu, .inl ⟨rfl, rfl, rfl⟩⟩
                        go_region_law (first | (refine step_append_part (by rfl) _ _ 54 (by rfl) wb.heap.size 9 iS _ 1 16 Tryz.underlying54 HJ.out.1 HJ.out.2.1 HJ.out.2.2.1 HJ.out.2.2.2 rfl (by decide) (.slice an2 N2.length cn2) N2.length (N2.map Value.string) (by rfl) HOE.out none 0 0 (((([] : List ByteArray).drop 0).take (([] : List ByteArray).length - 0)).map Value.string) (by rfl) HPART.out (by unfold maxLen; first | omega | (simp; omega)) (by first | omega | (simp; omega)) hzz ?_; intro v6 w6 hown6 hg6; have HG6 := putN_grow HN2.out HD hg6 hown6 HLEN.out; obtain ⟨a6, c6, L6, rfl, HL6, HST6⟩ := HG6; obtain ⟨q6, r6⟩ := putN_cell HN2.out HD hg6))
                        all_goals
                          clear hown6 hg6 HPART
                          skip
                          go_wp2_with fail
                          go_meet
                          case rel => exact ⟨a6, c6, L6, HL6, HST6⟩
                      · skip
                        have i0 : (0 : Int) ≤ (p : Int) := by omega
                        have i1 : (p : Int) ≤ (nm.length : Int) := by omega
                        have i3 : nm.length ≤ cn := by omega
                        have i4 : (nm.length : Int) ≤ (cn : Int) := by omega
                        have HLEN : Hid (((nm.drop p).take (nm.length - p)).length = nm.length - p) := (HLM.out p (nm.length - p) (by omega)).2
                        have HPART : Hid (PartF wc.drew (if cn = p then some ⟨gn, 0, none⟩ else some ⟨gn, p, none⟩) (nm.length - p) (cn - p) 1 (((nm.drop p).take (nm.length - p)).map Value.string)) := by
                          refine ⟨(HLM.out p (nm.length - p) (by omega)).1, str_ones _, .inr ?_⟩
                          by_cases e : cn = p
                          · refine ⟨⟨gn, 0, none⟩, by rw [if_pos e], fun q u hu => ?_⟩
                            rw [show nm.length - p = 0 by omega] at hu
                            simp at hu
                          · exact ⟨⟨gn, p, none⟩, by rw [if_neg e], HSN.out wc.drew p _ HBW.out gn rfl⟩
                        go_region_law (first | (refine step_append_part (by rfl) _ _ 54 (by rfl) wb.heap.size 9 iS _ 1 16 Tryz.underlying54 HJ.out.1 HJ.out.2.1 HJ.out.2.2.1 HJ.out.2.2.2 rfl (by decide) (.slice an2 N2.length cn2) N2.length (N2.map Value.string) (by rfl) HOE.out (if cn = p then some ⟨gn, 0, none⟩ else some ⟨gn, p, none⟩) (nm.length - p) (cn - p) (((nm.drop p).take (nm.length - p)).map Value.string) (by rfl) HPART.out (by unfold maxLen; first | omega | (simp; omega)) (by first | omega | (simp; omega)) hzz ?_; intro v6 w6 hown6 hg6; have HG6 := putN_grow HN2.out HD hg6 hown6 HLEN.out; obtain ⟨a6, c6, L6, rfl, HL6, HST6⟩ := HG6; obtain ⟨q6, r6⟩ := putN_cell HN2.out HD hg6))
                        all_goals
                          clear hown6 hg6 HPART
                          generalize (if cn = p then some (⟨gn, 0, none⟩ : Addr) else some ⟨gn, p, none⟩) = ax
                          go_wp2_with fail
                          go_meet
                          case rel => exact ⟨a6, c6, L6, HL6, HST6⟩
                    case rest =>
                      obtain ⟨an3, cn3, N3, HM3, HN3⟩ := hcut
                      have HFIN : Hid (putK (.mk 7 n tx nm ks) name x = .mk 7 0 ⟨#[]⟩ N3 (ks.take p ++ x :: ks.drop p)) := by
                        show _ = _
                        rw [HPK.out, if_pos rfl, HM3.out, HM2.out, HM1.out, List.drop_zero, List.append_assoc, List.take_of_length_le (l := List.drop p nm) (by rw [List.length_drop]; omega)]
                        rfl
                      go_wp2_with fail
                      go_meet
                      case rel => exact ⟨wb, an3, cn3, N3, HFIN, HP3, HN3⟩
              · have HFIN : Hid (putK (.mk k n tx nm ks) name x = .mk k 0 ⟨#[]⟩ [] (ks.take p ++ x :: ks.drop p)) := by
                  show _ = _
                  rw [HPK.out, if_neg h7]
                have h7' : (k == 7) = false := by simpa using h7
                go_wp2_with fail
                go_meet
                case rel => exact ⟨wc, none, 0, [], HFIN, HP3, HP3.out.names⟩
            case rest =>
              obtain ⟨wb, an3, cn3, N3, HFIN, HPB, HN3⟩ := hcut
              clear HPK HP7 HPN7 HPN HI HNM HP3 b0 hcap hl hc hple
              have hdn := put_done (ts := ks.take p ++ x :: ks.drop p) HPB.out HN3.out HTL.out HTT.out _ rfl
              skip
              have HDN : Hid _ := hdn
              clear hdn
              obtain ⟨⟨v0, v1, v2, v3, v4⟩, y0, y1, y2, y3, y4⟩ := HN3.out.2.1
              obtain ⟨⟨t0, t1, t2, t3, t4⟩, _⟩ := HN3.out.2.2.1
              skip
              go_wp2_with fail
              obtain ⟨⟨⟨s0, s1, s2, s3, s4⟩, _⟩, _, _⟩ := id HDN.out
              exact bodyPost_ret (v := .agg #[.int .i64 k, .int .i64 0, .string ⟨#[]⟩, .slice an3 N3.length cn3, .slice a3 L3.length c3]) (by simp [results, Tryz.results62, go_sem, s0, s1, s2, s3, s4]) rfl ⟨_, _, _, _, _, _, _, _, _, rfl, by rw [HFIN.out]; exact HDN.out.2.1, HDN.out.2.2⟩

end Go.Proofs.YtadlflgflnlhjaaGreatDoor
namespace Go.Proofs.YtadlflgflnlhjaaGreatDoor
open Go.RowKit
set_option linter.unusedVariables false

/-- WHAT l3Set ANSWERS. -/
def SetIs (S : Nat → Prop) (x t : Tr) (l : List ByteArray) (w : World) (e : Ending) (w' : World) : Prop :=
  ∃ (k n : Int) (tx : ByteArray) (an : Option Addr) (mn cn : Nat) (ak : Option Addr) (mk ck : Nat), e = .returned (.tuple #[.agg #[.int .i64 k, .int .i64 n, .string tx, .slice an mn cn, .slice ak mk ck], .bool (setT x l t).isSome]) ∧ (∀ y, setT x l t = some y → TreeIs w' (fun b => S b ∨ w.heap.size ≤ b) y (.agg #[.int .i64 k, .int .i64 n, .string tx, .slice an mn cn, .slice ak mk ck])) ∧ Below w.heap.size w w'

set_option maxRecDepth 100000 in
set_option maxHeartbeats 8000000 in
theorem l3Set_any (x : Tr) (xk xn : Int) (xt : ByteArray) (xan : Option Addr) (xmn xcn : Nat) (xak : Option Addr) (xmk xck : Nat) : ∀ (m : Nat) (t : Tr) (v : Value) (a : Option Addr) (ca : Nat) (f : Nat → ByteArray) (w : World) (S : Nat → Prop), TreeIs w S t v → TreeIs w S x (.agg #[.int .i64 xk, .int .i64 xn, .string xt, .slice xan xmn xcn, .slice xak xmk xck]) → t.named → t.cnt ≤ 2 ^ 19 → m ≤ 2 ^ 20 → m ≤ ca → ArgS w a m f →
    Calls Tryz.prog 31 #[v, .slice a m ca, (.agg #[.int .i64 xk, .int .i64 xn, .string xt, .slice xan xmn xcn, .slice xak xmk xck])] w (SetIs S x t (lst f m) w) := by
  intro m
  induction m with
  | zero =>
    intro t v a ca f w S h hx hnd hc hm hca ha
    obtain ⟨k, n, tx, nm, ks⟩ := t
    obtain ⟨an, cn, ak, ck, rfl⟩ := (TreeIs.any h).head
    dsimp only [Tr.kind, Tr.num, Tr.text, Tr.names, Tr.kids] at h ⊢
    have HX : Hid (TreeIs w S x (.agg #[.int .i64 xk, .int .i64 xn, .string xt, .slice xan xmn xcn, .slice xak xmk xck])) := hx
    go_enter Tryz.func31, Tryz.ntmps31
    go_upto_region 2 with fail
    generalize hW : ((w.alloc (.cells #[.int .i64 k, .int .i64 n, .string tx, .slice an nm.length cn, .slice ak ks.length ck] 60)).alloc (.cells #[.int .i64 xk, .int .i64 xn, .string xt, .slice xan xmn xcn, .slice xak xmk xck] 60)).alloc (.cells #[.int .i64 0, .int .i64 0, .string ⟨#[]⟩, .slice none 0 0, .slice none 0 0] 60) = W0
    have hs0 : W0.heap.size = w.heap.size + 3 := by rw [← hW]; simp
    have HB0 : Hid (Below w.heap.size w W0) := by show Below _ _ _; rw [← hW]; exact (((Below.refl _ w).alloc (Nat.le_refl _) _).alloc (by simp) _).alloc (by simp; omega) _
    have hX0 : FiveAt W0 (w.heap.size + 1) (.int .i64 xk) (.int .i64 xn) (.string xt) (.slice xan xmn xcn) (.slice xak xmk xck) := by
      rw [← hW]
      have := fiveAt_new (w.alloc (.cells #[.int .i64 k, .int .i64 n, .string tx, .slice an nm.length cn, .slice ak ks.length ck] 60)) (.int .i64 xk) (.int .i64 xn) (.string xt) (.slice xan xmn xcn) (.slice xak xmk xck) 60
      rw [World.size_alloc] at this
      exact this.below ((Below.refl _ _).alloc (Nat.le_refl _) _) (by simp)
    have hZ0 : FiveAt W0 (w.heap.size + 1 + 1) (.int .i64 0) (.int .i64 0) (.string ⟨#[]⟩) (.slice none 0 0) (.slice none 0 0) := by
      rw [← hW]
      have := fiveAt_new ((w.alloc (.cells #[.int .i64 k, .int .i64 n, .string tx, .slice an nm.length cn, .slice ak ks.length ck] 60)).alloc (.cells #[.int .i64 xk, .int .i64 xn, .string xt, .slice xan xmn xcn, .slice xak xmk xck] 60)) (.int .i64 0) (.int .i64 0) (.string ⟨#[]⟩) (.slice none 0 0) (.slice none 0 0) 60
      rw [World.size_alloc, World.size_alloc] at this
      exact this
    clear hW
    have HQ := hZ0.set (.int .i64 xk) (.int .i64 xn) (.string xt) (.slice xan xmn xcn) (.slice xak xmk xck)
    obtain ⟨⟨⟨s0, s1, s2, s3, s4⟩, _⟩, hbb⟩ := id HQ
    have HBF : Hid (Below w.heap.size w (((((W0.setCell ⟨w.heap.size + 1 + 1, 0, none⟩ (.int .i64 xk)).setCell ⟨w.heap.size + 1 + 1, 1, none⟩ (.int .i64 xn)).setCell ⟨w.heap.size + 1 + 1, 2, none⟩ (.string xt)).setCell ⟨w.heap.size + 1 + 1, 3, none⟩ (.slice xan xmn xcn)).setCell ⟨w.heap.size + 1 + 1, 4, none⟩ (.slice xak xmk xck))) := HB0.out.trans ((hbb w.heap.size).below (Nat.le_refl _) (by omega))
    have HTF : Hid (TreeIs (((((W0.setCell ⟨w.heap.size + 1 + 1, 0, none⟩ (.int .i64 xk)).setCell ⟨w.heap.size + 1 + 1, 1, none⟩ (.int .i64 xn)).setCell ⟨w.heap.size + 1 + 1, 2, none⟩ (.string xt)).setCell ⟨w.heap.size + 1 + 1, 3, none⟩ (.slice xan xmn xcn)).setCell ⟨w.heap.size + 1 + 1, 4, none⟩ (.slice xak xmk xck)) (fun b => S b ∨ w.heap.size ≤ b) x (.agg #[.int .i64 xk, .int .i64 xn, .string xt, .slice xan xmn xcn, .slice xak xmk xck])) := TreeIs.keep (fun b _ hb => HBF.out.block b hb) (fun b hS _ => .inl hS) HBF.out.size _ _ HX.out
    obtain ⟨⟨v0, v1, v2, v3, v4⟩, y0, y1, y2, y3, y4⟩ := hZ0
    obtain ⟨⟨u0, u1, u2, u3, u4⟩, _⟩ := hX0
    clear HQ hbb
    go_wp2_with fail
    exact bodyPost_ret (v := .tuple #[(.agg #[.int .i64 xk, .int .i64 xn, .string xt, .slice xan xmn xcn, .slice xak xmk xck]), .bool true]) (by simp [results, Tryz.results31, go_sem, s0, s1, s2, s3, s4]) rfl ⟨_, _, _, _, _, _, _, _, _, rfl, fun y hy => by simp [lst, setT] at hy; subst hy; exact HTF.out, HBF.out⟩
  | succ m ihm =>
    intro t v a ca f w S h hx hnd hc hm hca ha
    obtain ⟨k, n, tx, nm, ks⟩ := t
    obtain ⟨an, cn, ak, ck, rfl⟩ := (TreeIs.any h).head
    dsimp only [Tr.kind, Tr.num, Tr.text, Tr.names, Tr.kids] at h ⊢
    have HT : Hid (TreeIs w S (.mk k n tx nm ks) (.agg #[.int .i64 k, .int .i64 n, .string tx, .slice an nm.length cn, .slice ak ks.length ck]) ∧ (Tr.mk k n tx nm ks).named ∧ (Tr.mk k n tx nm ks).cnt ≤ 2 ^ 19) := ⟨h, hnd, hc⟩
    have HX : Hid (TreeIs w S x (.agg #[.int .i64 xk, .int .i64 xn, .string xt, .slice xan xmn xcn, .slice xak xmk xck])) := hx
    have hkl : ks.length ≤ 2 ^ 19 := by
      have h1 := Tr.len_cnts ks
      rw [Tr.cnt] at hc
      omega
    have HND : Hid (k = 7 → nm.length = ks.length) := by
      rw [Tr.named] at hnd
      exact hnd.1
    have HIH : Hid (∀ (t : Tr) (v : Value) (a : Option Addr) (ca : Nat) (f : Nat → ByteArray) (w : World) (S : Nat → Prop), TreeIs w S t v → TreeIs w S x (.agg #[.int .i64 xk, .int .i64 xn, .string xt, .slice xan xmn xcn, .slice xak xmk xck]) → t.named → t.cnt ≤ 2 ^ 19 → m ≤ 2 ^ 20 → m ≤ ca → ArgS w a m f → Calls Tryz.prog 31 #[v, .slice a m ca, (.agg #[.int .i64 xk, .int .i64 xn, .string xt, .slice xan xmn xcn, .slice xak xmk xck])] w (SetIs S x t (lst f m) w)) := ihm
    obtain ⟨b, off, rfl, hb, hat⟩ : ∃ b off, a = some ⟨b, off, none⟩ ∧ b < w.heap.size ∧ ∀ i, i < m + 1 → w.cell? ⟨b, off + i, none⟩ = some (.string (f i)) := by
      rcases ha with h0 | h0
      · omega
      · exact h0
    have a0 := hat 0 (by omega)
    rw [Nat.add_zero] at a0
    have HAT : Hid (∀ i, i < m + 1 → w.cell? ⟨b, off + i, none⟩ = some (.string (f i))) := hat
    have HA0 : Hid (w.cell? ⟨b, off, none⟩ = some (.string (f 0))) := a0
    have HR : Hid (setT x (lst f (m + 1)) (.mk k n tx nm ks) = match atI k nm (f 0) ks.length with
        | none => bif (lst (fun i => f (i + 1)) m).isEmpty && newOK k ks.length (f 0) then some (putK (.mk k n tx nm ks) (f 0) x) else none
        | some i => (ks[i]?).bind fun z => (setT x (lst (fun i => f (i + 1)) m) z).map (withK (.mk k n tx nm ks) i)) := by
      show _ = _
      rw [lst_cons, setT]
      rfl
    clear h hx hnd hc ihm ha hat a0
    go_enter Tryz.func31, Tryz.ntmps31
    have m1 : ((m + 1 : Nat) : Int) = (m : Int) + 1 := by omega
    have m2 : ¬ ((m : Int) + 1 = 0) := by omega
    have m3 : (((m : Int) + 1) == 0) = false := by simpa using m2
    go_upto_region 3 with fail
    generalize hW : ((w.alloc (.cells #[.int .i64 k, .int .i64 n, .string tx, .slice an nm.length cn, .slice ak ks.length ck] 60)).alloc (.cells #[.int .i64 xk, .int .i64 xn, .string xt, .slice xan xmn xcn, .slice xak xmk xck] 60)).alloc (.cells #[.int .i64 0, .int .i64 0, .string ⟨#[]⟩, .slice none 0 0, .slice none 0 0] 60) = W0
    have hs0 : W0.heap.size = w.heap.size + 3 := by rw [← hW]; simp
    have HST0 : Hid (FiveAt W0 w.heap.size (.int .i64 k) (.int .i64 n) (.string tx) (.slice an nm.length cn) (.slice ak ks.length ck) ∧ FiveAt W0 (w.heap.size + 1) (.int .i64 xk) (.int .i64 xn) (.string xt) (.slice xan xmn xcn) (.slice xak xmk xck) ∧ FiveAt W0 (w.heap.size + 1 + 1) (.int .i64 0) (.int .i64 0) (.string ⟨#[]⟩) (.slice none 0 0) (.slice none 0 0) ∧ w.heap.size + 3 ≤ W0.heap.size ∧ Below w.heap.size w W0) := by
      refine ⟨?_, ?_, ?_, by omega, ?_⟩
      · rw [← hW]
        exact (fiveAt_new w _ _ _ _ _ _).below (((Below.refl _ _).alloc (Nat.le_refl _) _).alloc (by simp) _) (by simp)
      · rw [← hW]
        have := fiveAt_new (w.alloc (.cells #[.int .i64 k, .int .i64 n, .string tx, .slice an nm.length cn, .slice ak ks.length ck] 60)) (.int .i64 xk) (.int .i64 xn) (.string xt) (.slice xan xmn xcn) (.slice xak xmk xck) 60
        rw [World.size_alloc] at this
        exact this.below ((Below.refl _ _).alloc (Nat.le_refl _) _) (by simp)
      · rw [← hW]
        have := fiveAt_new ((w.alloc (.cells #[.int .i64 k, .int .i64 n, .string tx, .slice an nm.length cn, .slice ak ks.length ck] 60)).alloc (.cells #[.int .i64 xk, .int .i64 xn, .string xt, .slice xan xmn xcn, .slice xak xmk xck] 60)) (.int .i64 0) (.int .i64 0) (.string ⟨#[]⟩) (.slice none 0 0) (.slice none 0 0) 60
        rw [World.size_alloc, World.size_alloc] at this
        exact this
      · rw [← hW]
        exact (((Below.refl _ w).alloc (Nat.le_refl _) _).alloc (by simp) _).alloc (by simp; omega) _
    clear hW
    go_cut [8] (fun q wx => q = .int .i64 (atV (atI k nm (f 0) ks.length)) ∧ Hid (FiveAt wx w.heap.size (.int .i64 k) (.int .i64 n) (.string tx) (.slice an nm.length cn) (.slice ak ks.length ck) ∧ FiveAt wx (w.heap.size + 1) (.int .i64 xk) (.int .i64 xn) (.string xt) (.slice xan xmn xcn) (.slice xak xmk xck) ∧ FiveAt wx (w.heap.size + 1 + 1) (.int .i64 0) (.int .i64 0) (.string ⟨#[]⟩) (.slice none 0 0) (.slice none 0 0) ∧ w.heap.size + 3 ≤ wx.heap.size ∧ Below w.heap.size w wx))
    case first =>
      have n0 := (HST0.out.2.2.2.2.cell (p := ⟨b, off, none⟩) hb).trans HA0.out
      obtain ⟨⟨x0, x1, x2, x3, x4⟩, _⟩ := HST0.out.1
      have i0 : (0 : Int) < (m : Int) + 1 := by omega
      have i1 : (0 : Int) < ((m + 1 : Nat) : Int) := by omega
      have i2 : 0 < m + 1 := by omega
      have hw0 : w.heap.size < W0.heap.size := by omega
      have hb0 : b < W0.heap.size := by omega
      go_region_held3 (fun w' => w'.cell? ⟨w.heap.size, 0, none⟩ = some (.int .i64 k) ∧ w'.cell? ⟨w.heap.size, 1, none⟩ = some (.int .i64 n) ∧ w'.cell? ⟨w.heap.size, 2, none⟩ = some (.string tx) ∧ w'.cell? ⟨w.heap.size, 3, none⟩ = some (.slice an nm.length cn) ∧ w'.cell? ⟨w.heap.size, 4, none⟩ = some (.slice ak ks.length ck) ∧ w'.cell? ⟨b, off, none⟩ = some (.string (f 0))) (first | exact ⟨x0, x1, x2, x3, x4, n0⟩ | exact ⟨(hc1 _ _ hw0).trans x0, (hc1 _ _ hw0).trans x1, (hc1 _ _ hw0).trans x2, (hc1 _ _ hw0).trans x3, (hc1 _ _ hw0).trans x4, (hc1 _ _ hb0).trans n0⟩)
        (first | (go_at_call 60; refine (l3At_any k n tx nm ks _ (f 0) _ ((TreeIs.any HT.out.1).below (HST0.out.2.2.2.2.drew)) HND.out (by omega)).mono ?_; rintro e w1 ⟨rfl, hb1⟩; obtain ⟨hc1, hf1⟩ := bcell hb1))
      have hb2 : Below W0.heap.size W0 w1 := (Below.drew (Below.refl W0.heap.size W0)).trans hb1
      have HG : Hid (FiveAt w1 w.heap.size (.int .i64 k) (.int .i64 n) (.string tx) (.slice an nm.length cn) (.slice ak ks.length ck) ∧ FiveAt w1 (w.heap.size + 1) (.int .i64 xk) (.int .i64 xn) (.string xt) (.slice xan xmn xcn) (.slice xak xmk xck) ∧ FiveAt w1 (w.heap.size + 1 + 1) (.int .i64 0) (.int .i64 0) (.string ⟨#[]⟩) (.slice none 0 0) (.slice none 0 0) ∧ w.heap.size + 3 ≤ w1.heap.size ∧ Below w.heap.size w w1) := ⟨HST0.out.1.below hb2 (by omega), HST0.out.2.1.below hb2 (by omega), HST0.out.2.2.1.below hb2 (by omega), by have := hb2.size; omega, HST0.out.2.2.2.2.trans (hb2.mono (by omega))⟩
      go_wp2_with fail
      go_meet
      case rel => exact ⟨rfl, HG⟩
    case rest =>
      obtain ⟨rfl, HF⟩ := hcut
      clear HST0 hs0
      cases hai : atI k nm (f 0) ks.length with
      | none =>
        rw [show atV none = (-1 : Int) from rfl]
        have hlt0 : (-1 : Int) < 0 := by decide
        have HRN : Hid (setT x (lst f (m + 1)) (.mk k n tx nm ks) = bif (lst (fun i => f (i + 1)) m).isEmpty && newOK k ks.length (f 0) then some (putK (.mk k n tx nm ks) (f 0) x) else none) := by
          show _ = _
          rw [HR.out, hai]
        clear HR
        go_upto_region 5 with fail
        go_cut [44] (fun q wx => q = .bool (!((lst (fun i => f (i + 1)) m).isEmpty && newOK k ks.length (f 0))) ∧ Hid (FiveAt wx w.heap.size (.int .i64 k) (.int .i64 n) (.string tx) (.slice an nm.length cn) (.slice ak ks.length ck) ∧ FiveAt wx (w.heap.size + 1) (.int .i64 xk) (.int .i64 xn) (.string xt) (.slice xan xmn xcn) (.slice xak xmk xck) ∧ FiveAt wx (w.heap.size + 1 + 1) (.int .i64 0) (.int .i64 0) (.string ⟨#[]⟩) (.slice none 0 0) (.slice none 0 0) ∧ w.heap.size + 3 ≤ wx.heap.size ∧ Below w.heap.size w wx))
        case first =>
          obtain ⟨hV1, hX1, hZ1, hz1, hB1⟩ := HF.out
          have n0 := (hB1.cell (p := ⟨b, off, none⟩) hb).trans HA0.out
          have hww : w.heap.size < wc.heap.size := by omega
          have hbw : b < wc.heap.size := by omega
          have HUP : Hid (∀ W, Below wc.heap.size wc W → (FiveAt W w.heap.size (.int .i64 k) (.int .i64 n) (.string tx) (.slice an nm.length cn) (.slice ak ks.length ck) ∧ FiveAt W (w.heap.size + 1) (.int .i64 xk) (.int .i64 xn) (.string xt) (.slice xan xmn xcn) (.slice xak xmk xck) ∧ FiveAt W (w.heap.size + 1 + 1) (.int .i64 0) (.int .i64 0) (.string ⟨#[]⟩) (.slice none 0 0) (.slice none 0 0) ∧ w.heap.size + 3 ≤ W.heap.size ∧ Below w.heap.size w W)) := fun W hW => ⟨hV1.below hW (by omega), hX1.below hW (by omega), hZ1.below hW (by omega), by have := hW.size; omega, hB1.trans (hW.mono (by omega))⟩
          obtain ⟨⟨x0, x1, x2, x3, x4⟩, _⟩ := hV1
          cases m with
          | succ m' =>
            have HB : Hid ((!((lst (fun i => f (i + 1)) (m' + 1)).isEmpty && newOK k ks.length (f 0))) = true) := by
              show _ = _
              rw [lst_cons]
              rfl
            have m4 : (1 : Int) < (m' : Int) + 1 + 1 := by omega
            have m5 : (1 : Int) < ((m' + 1 + 1 : Nat) : Int) := by omega
            clear hX1 hZ1
            go_region
            go_wp2_with fail
            go_meet
            case rel => exact ⟨by rw [HB.out], HUP.out _ (Below.drew (Below.refl _ _))⟩
          | zero =>
            have hd : decide ((1 : Int) < ((0 + 1 : Nat) : Int)) = false := rfl
            by_cases h7 : k = 7
            · subst h7
              clear hX1 hZ1
              go_quiet (fail)
              go_wp2_with fail
              go_meet
              case rel => exact ⟨rfl, HUP.out _ (drewN_below (Below.refl _ _) _)⟩
            · have h7' : (k == 7) = false := by simpa using h7
              have h72 : (k != 7) = true := by simpa using h7
              have h73 : decide (k = 7) = false := by simpa using h7
              have h74 : (!decide (k = 7)) = true := by simpa using h7
              by_cases h6 : k = 6
              · subst h6
                clear hX1 hZ1
                go_region_with (go_at_call 61; refine (l1Num_any _ (ks.length : Int) _ rfl (by omega) (by omega)).mono ?_; rintro e w1 ⟨rfl, hb1⟩; obtain ⟨hc1, hf1⟩ := bcell hb1; have n01 := (hc1 _ _ hbw).trans n0)
                all_goals
                  have HW1 : Hid _ := HUP.out w1 ((Below.drew (Below.refl _ _)).trans hb1)
                  have HB : Hid ((!((lst (fun i => f (i + 1)) 0).isEmpty && newOK 6 ks.length (f 0))) = !((strL (Lib.decDigits ks.length)).toList == (f 0).toList)) := by
                    show _ = _
                    unfold newOK
                    simp [lst]
                  clear hb1 hc1 hf1
                  go_wp2_with fail
                  go_meet
                  case rel => exact ⟨by rw [HB.out], HW1⟩
              · have h6' : (k == 6) = false := by simpa using h6
                have h62 : (k != 6) = true := by simpa using h6
                have h63 : decide (k = 6) = false := by simpa using h6
                have h64 : (!decide (k = 6)) = true := by simpa using h6
                have HB : Hid ((!((lst (fun i => f (i + 1)) 0).isEmpty && newOK k ks.length (f 0))) = true) := by
                  show _ = _
                  unfold newOK
                  rw [h73, h63]
                  rfl
                clear hX1 hZ1
                go_quiet (fail)
                go_wp2_with fail
                go_meet
                case rel => exact ⟨by rw [HB.out], HUP.out _ (drewN_below (Below.refl _ _) _)⟩
        case rest =>
          obtain ⟨rfl, HF2⟩ := hcut
          clear HF
          obtain ⟨hV1, hX1, hZ1, hz1, hB1⟩ := HF2.out
          cases hBB : ((lst (fun i => f (i + 1)) m).isEmpty && newOK k ks.length (f 0)) with
          | false =>
            have HN : Hid (setT x (lst f (m + 1)) (.mk k n tx nm ks) = none) := by show _ = _; rw [HRN.out, hBB]; rfl
            rw [show (!false) = true from rfl]
            clear hV1 hX1
            have HQ := hZ1.set (.int .i64 0) (.int .i64 0) (.string ⟨#[]⟩) (.slice none 0 0) (.slice none 0 0)
            obtain ⟨⟨⟨s0, s1, s2, s3, s4⟩, _⟩, hbb⟩ := id HQ
            have HBF : Hid (Below w.heap.size w (((((wc.setCell ⟨w.heap.size + 1 + 1, 0, none⟩ (.int .i64 0)).setCell ⟨w.heap.size + 1 + 1, 1, none⟩ (.int .i64 0)).setCell ⟨w.heap.size + 1 + 1, 2, none⟩ (.string ⟨#[]⟩)).setCell ⟨w.heap.size + 1 + 1, 3, none⟩ (.slice none 0 0)).setCell ⟨w.heap.size + 1 + 1, 4, none⟩ (.slice none 0 0))) := hB1.trans ((hbb w.heap.size).below (Nat.le_refl _) (by omega))
            obtain ⟨⟨v0, v1, v2, v3, v4⟩, y0, y1, y2, y3, y4⟩ := hZ1
            clear HQ hbb
            go_wp2_with fail
            exact bodyPost_ret (v := .tuple #[(.agg #[.int .i64 0, .int .i64 0, .string ⟨#[]⟩, .slice none 0 0, .slice none 0 0]), .bool false]) (by simp [results, Tryz.results31, go_sem, s0, s1, s2, s3, s4]) rfl ⟨_, _, _, _, _, _, _, _, _, by rw [HN.out]; rfl, fun x hx => by rw [HN.out] at hx; simp at hx, HBF.out⟩
          | true =>
            have HN : Hid (setT x (lst f (m + 1)) (.mk k n tx nm ks) = some (putK (.mk k n tx nm ks) (f 0) x)) := by show _ = _; rw [HRN.out, hBB]; rfl
            rw [show (!true) = false from rfl]
            have n0 := (hB1.cell (p := ⟨b, off, none⟩) hb).trans HA0.out
            have HSK : Hid (∀ w' : World, (∀ q, q < wc.heap.size → q ≠ w.heap.size + 1 + 1 → w'.heap[q]? = wc.heap[q]?) → (w'.cell? ⟨w.heap.size, 0, none⟩ = some (.int .i64 k) ∧ w'.cell? ⟨w.heap.size, 1, none⟩ = some (.int .i64 n) ∧ w'.cell? ⟨w.heap.size, 2, none⟩ = some (.string tx) ∧ w'.cell? ⟨w.heap.size, 3, none⟩ = some (.slice an nm.length cn) ∧ w'.cell? ⟨w.heap.size, 4, none⟩ = some (.slice ak ks.length ck) ∧ w'.cell? ⟨b, off, none⟩ = some (.string (f 0)) ∧ w'.cell? ⟨w.heap.size + 1, 0, none⟩ = some (.int .i64 xk) ∧ w'.cell? ⟨w.heap.size + 1, 1, none⟩ = some (.int .i64 xn) ∧ w'.cell? ⟨w.heap.size + 1, 2, none⟩ = some (.string xt) ∧ w'.cell? ⟨w.heap.size + 1, 3, none⟩ = some (.slice xan xmn xcn) ∧ w'.cell? ⟨w.heap.size + 1, 4, none⟩ = some (.slice xak xmk xck))) := fun w' hw => by
              have c : ∀ q o, q < wc.heap.size → q ≠ w.heap.size + 1 + 1 → w'.cell? ⟨q, o, none⟩ = wc.cell? ⟨q, o, none⟩ := fun q o h1 h2 => World.cell?_of_block (hw q h1 h2)
              obtain ⟨⟨x0, x1, x2, x3, x4⟩, _⟩ := hV1
              obtain ⟨⟨u0, u1, u2, u3, u4⟩, _⟩ := hX1
              exact ⟨(c _ _ (by omega) (by omega)).trans x0, (c _ _ (by omega) (by omega)).trans x1, (c _ _ (by omega) (by omega)).trans x2, (c _ _ (by omega) (by omega)).trans x3, (c _ _ (by omega) (by omega)).trans x4, (c _ _ (by omega) (by omega)).trans n0, (c _ _ (by omega) (by omega)).trans u0, (c _ _ (by omega) (by omega)).trans u1, (c _ _ (by omega) (by omega)).trans u2, (c _ _ (by omega) (by omega)).trans u3, (c _ _ (by omega) (by omega)).trans u4⟩
            have HS0 := HSK.out wc (fun _ _ _ => rfl)
            have HBd : Hid (Below wc.heap.size wc wc.drew) := (Below.refl _ _).drew
            have hBd : Below w.heap.size w wc.drew := hB1.trans (HBd.out.mono (by omega))
            have HTD : Hid (TreeIs wc.drew (fun b => S b ∧ b < w.heap.size) (.mk k n tx nm ks) (.agg #[.int .i64 k, .int .i64 n, .string tx, .slice an nm.length cn, .slice ak ks.length ck]) ∧ TreeIs wc.drew (fun b => S b ∧ b < w.heap.size) x (.agg #[.int .i64 xk, .int .i64 xn, .string xt, .slice xan xmn xcn, .slice xak xmk xck])) := ⟨tree_old HT.out.1 hBd, tree_old HX.out hBd⟩
            have HZ1 : Hid (FiveAt wc (w.heap.size + 1 + 1) (.int .i64 0) (.int .i64 0) (.string ⟨#[]⟩) (.slice none 0 0) (.slice none 0 0) ∧ Below w.heap.size w wc) := ⟨hZ1, hB1⟩
            have i0 : (0 : Int) < (m : Int) + 1 := by omega
            have i1 : (0 : Int) < ((m + 1 : Nat) : Int) := by omega
            have i2 : 0 < m + 1 := by omega
            obtain ⟨e0, e1, e2, e3, e4, e5, e6, e7, e8, e9, e10⟩ := HS0
            clear hV1 hX1 hZ1 hB1 hBB HRN hBd
            go_wp2_with fail
            go_region_held3 (fun w' => w'.cell? ⟨w.heap.size, 0, none⟩ = some (.int .i64 k) ∧ w'.cell? ⟨w.heap.size, 1, none⟩ = some (.int .i64 n) ∧ w'.cell? ⟨w.heap.size, 2, none⟩ = some (.string tx) ∧ w'.cell? ⟨w.heap.size, 3, none⟩ = some (.slice an nm.length cn) ∧ w'.cell? ⟨w.heap.size, 4, none⟩ = some (.slice ak ks.length ck) ∧ w'.cell? ⟨b, off, none⟩ = some (.string (f 0)) ∧ w'.cell? ⟨w.heap.size + 1, 0, none⟩ = some (.int .i64 xk) ∧ w'.cell? ⟨w.heap.size + 1, 1, none⟩ = some (.int .i64 xn) ∧ w'.cell? ⟨w.heap.size + 1, 2, none⟩ = some (.string xt) ∧ w'.cell? ⟨w.heap.size + 1, 3, none⟩ = some (.slice xan xmn xcn) ∧ w'.cell? ⟨w.heap.size + 1, 4, none⟩ = some (.slice xak xmk xck)) (first | (with_reducible exact HS7) | (with_reducible exact HS8) | exact ⟨e0, e1, e2, e3, e4, e5, e6, e7, e8, e9, e10⟩ | fail)
              (first | (go_at_call 62; refine (l1Put_any (fun b => S b ∧ b < w.heap.size) (.mk k n tx nm ks) x _ _ (f 0) wc.drew HTD.out.1 HTD.out.2 HT.out.2.1 hkl).mono ?_; rintro e w2 ⟨k2, n2, t2, an2, mn2, cn2, ak2, mk2, ck2, rfl, htr2, hb2⟩; have hB2 : Below wc.heap.size wc w2 := HBd.out.trans hb2; have hz2 := hB2.size; have HS7 := HSK.out w2 (fun q h _ => hB2.block q h); have HZ2 : Hid (FiveAt w2 (w.heap.size + 1 + 1) (.int .i64 0) (.int .i64 0) (.string ⟨#[]⟩) (.slice none 0 0) (.slice none 0 0)) := HZ1.out.1.below hB2 (by omega); have HBB : Hid _ := HZ2.out.set (.int .i64 k2) (.int .i64 n2) (.string t2) (.slice an2 mn2 cn2) (.slice ak2 mk2 ck2); have HS8 := HSK.out (((((w2.setCell ⟨w.heap.size + 1 + 1, 0, none⟩ (.int .i64 k2)).setCell ⟨w.heap.size + 1 + 1, 1, none⟩ (.int .i64 n2)).setCell ⟨w.heap.size + 1 + 1, 2, none⟩ (.string t2)).setCell ⟨w.heap.size + 1 + 1, 3, none⟩ (.slice an2 mn2 cn2)).setCell ⟨w.heap.size + 1 + 1, 4, none⟩ (.slice ak2 mk2 ck2)) (fun q h1 h2 => ((HBB.out.2 w2.heap.size).block q (by omega) h2).trans (hB2.block q h1)); obtain ⟨⟨z0, z1, z2, z3, z4⟩, q0, q1, q2, q3, q4⟩ := HZ2.out))
            all_goals
              have hdz : wc.drew.heap.size = wc.heap.size := rfl
              have HBF : Hid (Below w.heap.size w (((((w2.setCell ⟨w.heap.size + 1 + 1, 0, none⟩ (.int .i64 k2)).setCell ⟨w.heap.size + 1 + 1, 1, none⟩ (.int .i64 n2)).setCell ⟨w.heap.size + 1 + 1, 2, none⟩ (.string t2)).setCell ⟨w.heap.size + 1 + 1, 3, none⟩ (.slice an2 mn2 cn2)).setCell ⟨w.heap.size + 1 + 1, 4, none⟩ (.slice ak2 mk2 ck2))) := (HZ1.out.2.trans (hB2.mono (by omega))).trans ((HBB.out.2 w.heap.size).below (Nat.le_refl _) (by omega))
              have HTF : Hid (TreeIs (((((w2.setCell ⟨w.heap.size + 1 + 1, 0, none⟩ (.int .i64 k2)).setCell ⟨w.heap.size + 1 + 1, 1, none⟩ (.int .i64 n2)).setCell ⟨w.heap.size + 1 + 1, 2, none⟩ (.string t2)).setCell ⟨w.heap.size + 1 + 1, 3, none⟩ (.slice an2 mn2 cn2)).setCell ⟨w.heap.size + 1 + 1, 4, none⟩ (.slice ak2 mk2 ck2)) (fun b => S b ∨ w.heap.size ≤ b) (putK (.mk k n tx nm ks) (f 0) x) (.agg #[.int .i64 k2, .int .i64 n2, .string t2, .slice an2 mn2 cn2, .slice ak2 mk2 ck2])) := tree_past htr2 (HBB.out.2 w2.heap.size) (fun b hS _ => by rcases hS with h | h <;> omega) (fun b hS => by rcases hS with h | h; exact .inl h.1; exact .inr (by omega))
              clear HS7 HS8 htr2 hb2 hB2 e0 e1 e2 e3 e4 e5 e6 e7 e8 e9 e10
              go_wp2_with fail
              obtain ⟨⟨s0, s1, s2, s3, s4⟩, _⟩ := HBB.out.1
              exact bodyPost_ret (v := .tuple #[(.agg #[.int .i64 k2, .int .i64 n2, .string t2, .slice an2 mn2 cn2, .slice ak2 mk2 ck2]), .bool true]) (by simp [results, Tryz.results31, go_sem, s0, s1, s2, s3, s4]) rfl ⟨_, _, _, _, _, _, _, _, _, by rw [HN.out]; rfl, fun y hy => by rw [HN.out] at hy; obtain rfl := Option.some.inj hy; exact HTF.out, HBF.out⟩
      | some i =>
        have hil : i < ks.length := atI_lt hai
        obtain ⟨z, hz⟩ : ∃ z, ks[i]? = some z := ⟨ks[i], List.getElem?_eq_getElem hil⟩
        have hni : ¬ ((i : Int) < 0) := by omega
        rw [show atV (some i) = (i : Int) from rfl]
        obtain ⟨g, rfl, hg, hkid⟩ : ∃ g, ak = some ⟨g, 0, none⟩ ∧ g < w.heap.size ∧ KidAt w S z g i := by
          obtain ⟨an', cn', ak', ck', e, _, hk⟩ := TreeIs.open HT.out.1
          simp only [Value.agg.injEq, Array.mk.injEq, List.cons.injEq, and_true] at e
          obtain ⟨_, _, _, _, e⟩ := e
          obtain ⟨rfl, _⟩ : ak = ak' ∧ ck = ck' := by simpa using e
          rcases hk with h0 | ⟨g, rfl, _, hg, hkid⟩
          · rw [h0] at hil; simp at hil
          · exact ⟨g, rfl, hg, hkid i z hz⟩
        obtain ⟨zan, zcn, zak, zck, e0, e1, e2, e3, e4, htr⟩ := hkid.cellsS
        obtain ⟨zk, hzk⟩ : ∃ q, q = z.kind := ⟨_, rfl⟩
        obtain ⟨zn, hzn⟩ : ∃ q, q = z.num := ⟨_, rfl⟩
        obtain ⟨zt, hzt⟩ : ∃ q, q = z.text := ⟨_, rfl⟩
        obtain ⟨zmn, hzmn⟩ : ∃ q, q = z.names.length := ⟨_, rfl⟩
        obtain ⟨zmk, hzmk⟩ : ∃ q, q = z.kids.length := ⟨_, rfl⟩
        rw [← hzk] at e0 htr
        rw [← hzn] at e1 htr
        rw [← hzt] at e2 htr
        rw [← hzmn] at e3 htr
        rw [← hzmk] at e4 htr
        clear hzk hzn hzt hzmn hzmk
        have HTX : Hid (TreeIs w S z (.agg #[.int .i64 zk, .int .i64 zn, .string zt, .slice zan zmn zcn, .slice zak zmk zck])) := htr
        have hxm := List.mem_of_getElem? hz
        have HXX : Hid (z.named ∧ z.cnt ≤ 2 ^ 19) := by
          have h1 := HT.out.2.1
          rw [Tr.named] at h1
          have h2 := HT.out.2.2
          rw [Tr.cnt] at h2
          have h3 := Tr.cnt_mem hxm
          exact ⟨Tr.nameds_mem.1 h1.2 z hxm, by omega⟩
        obtain ⟨R, hR⟩ : ∃ R, R = setT x (lst (fun i => f (i + 1)) m) z := ⟨_, rfl⟩
        have HRR : Hid (R = setT x (lst (fun i => f (i + 1)) m) z) := hR
        have HN : Hid (setT x (lst f (m + 1)) (.mk k n tx nm ks) = R.map (withK (.mk k n tx nm ks) i)) := by
          show _ = _
          rw [HR.out, hai, hR]
          show (ks[i]?).bind _ = _
          rw [hz]
          rfl
        clear hR hkid htr HR hxm hai hz
        go_upto_region 8 with fail
        go_cut [9, 10] (fun p q wx => ∃ (b7 : Nat) (k7 n7 : Int) (t7 : ByteArray) (an7 : Option Addr) (mn7 cn7 : Nat) (ak7 : Option Addr) (mk7 ck7 : Nat), p = .pointer (some ⟨b7, 0, none⟩) ∧ q = .bool R.isSome ∧ Hid (FiveAt wx b7 (.int .i64 k7) (.int .i64 n7) (.string t7) (.slice an7 mn7 cn7) (.slice ak7 mk7 ck7) ∧ FiveAt wx w.heap.size (.int .i64 k) (.int .i64 n) (.string tx) (.slice an nm.length cn) (.slice (some ⟨g, 0, none⟩) ks.length ck) ∧ FiveAt wx (w.heap.size + 1 + 1) (.int .i64 0) (.int .i64 0) (.string ⟨#[]⟩) (.slice none 0 0) (.slice none 0 0) ∧ (∀ y, R = some y → TreeIs wx (fun b => (S b ∧ b < w.heap.size) ∨ (w.heap.size + 3 ≤ b ∧ b ≠ b7)) y (.agg #[.int .i64 k7, .int .i64 n7, .string t7, .slice an7 mn7 cn7, .slice ak7 mk7 ck7])) ∧ (w.heap.size + 3 ≤ b7 ∧ b7 < wx.heap.size) ∧ Below w.heap.size w wx))
        case first =>
          obtain ⟨hV1, hX1, hZ1, hz1, hB1⟩ := HF.out
          obtain ⟨⟨_, _, _, _, x4⟩, _⟩ := hV1
          obtain ⟨⟨u0, u1, u2, u3, u4⟩, _⟩ := hX1
          have c0 := (hB1.cell (p := ⟨g, i * 5, none⟩) hg).trans e0
          have c1 := (hB1.cell (p := ⟨g, i * 5 + 1, none⟩) hg).trans e1
          have c2 := (hB1.cell (p := ⟨g, i * 5 + 2, none⟩) hg).trans e2
          have c3 := (hB1.cell (p := ⟨g, i * 5 + 3, none⟩) hg).trans e3
          have c4 := (hB1.cell (p := ⟨g, i * 5 + 4, none⟩) hg).trans e4
          have i0 : (0 : Int) ≤ (i : Int) := by omega
          have i1 : (i : Int) < (ks.length : Int) := by omega
          have hgw : g < wc.heap.size := by omega
          have hww : w.heap.size < wc.heap.size := by omega
          have hxw : w.heap.size + 1 < wc.heap.size := by omega
          clear e0 e1 e2 e3 e4
          have HSK : Hid (∀ w', Below wc.heap.size wc w' → (w'.cell? ⟨w.heap.size, 4, none⟩ = some (.slice (some ⟨g, 0, none⟩) ks.length ck) ∧ w'.cell? ⟨g, i * 5, none⟩ = some (.int .i64 zk) ∧ w'.cell? ⟨g, i * 5 + 1, none⟩ = some (.int .i64 zn) ∧ w'.cell? ⟨g, i * 5 + 2, none⟩ = some (.string zt) ∧ w'.cell? ⟨g, i * 5 + 3, none⟩ = some (.slice zan zmn zcn) ∧ w'.cell? ⟨g, i * 5 + 4, none⟩ = some (.slice zak zmk zck) ∧ w'.cell? ⟨w.heap.size + 1, 0, none⟩ = some (.int .i64 xk) ∧ w'.cell? ⟨w.heap.size + 1, 1, none⟩ = some (.int .i64 xn) ∧ w'.cell? ⟨w.heap.size + 1, 2, none⟩ = some (.string xt) ∧ w'.cell? ⟨w.heap.size + 1, 3, none⟩ = some (.slice xan xmn xcn) ∧ w'.cell? ⟨w.heap.size + 1, 4, none⟩ = some (.slice xak xmk xck))) := fun w' hb => ⟨(hb.cell hww).trans x4, (hb.cell hgw).trans c0, (hb.cell hgw).trans c1, (hb.cell hgw).trans c2, (hb.cell hgw).trans c3, (hb.cell hgw).trans c4, (hb.cell hxw).trans u0, (hb.cell hxw).trans u1, (hb.cell hxw).trans u2, (hb.cell hxw).trans u3, (hb.cell hxw).trans u4⟩
          have HCALL : Hid (∀ W ad cc, Below wc.heap.size wc W → m ≤ cc → ArgS w ad m (fun i => f (i + 1)) → Calls Tryz.prog 31 #[(.agg #[.int .i64 zk, .int .i64 zn, .string zt, .slice zan zmn zcn, .slice zak zmk zck]), .slice ad m cc, (.agg #[.int .i64 xk, .int .i64 xn, .string xt, .slice xan xmn xcn, .slice xak xmk xck])] W fun e w' => ∃ (k7 n7 : Int) (t7 : ByteArray) (an7 : Option Addr) (mn7 cn7 : Nat) (ak7 : Option Addr) (mk7 ck7 : Nat), e = .returned (.tuple #[(.agg #[.int .i64 k7, .int .i64 n7, .string t7, .slice an7 mn7 cn7, .slice ak7 mk7 ck7]), .bool R.isSome]) ∧ (∀ y, R = some y → TreeIs w' (fun b => (S b ∧ b < w.heap.size) ∨ W.heap.size ≤ b) y (.agg #[.int .i64 k7, .int .i64 n7, .string t7, .slice an7 mn7 cn7, .slice ak7 mk7 ck7])) ∧ Below W.heap.size W w') := fun W ad cc hW hcc had => by
            have hBW : Below w.heap.size w W := hB1.trans (hW.mono (by omega))
            have := HIH.out z _ ad cc (fun i => f (i + 1)) W (fun b => S b ∧ b < w.heap.size) (tree_old HTX.out hBW) (tree_old HX.out hBW) HXX.out.1 HXX.out.2 (by omega) hcc (had.below hBW)
            unfold SetIs at this
            rw [← HRR.out] at this
            exact this
          have HBd : Hid (Below wc.heap.size wc wc.drew) := (Below.refl _ _).drew
          have HBa : Hid (Below wc.heap.size wc ((wc.alloc (.cells #[.int .i64 0, .int .i64 0, .string ⟨#[]⟩, .slice none 0 0, .slice none 0 0] 60)).drew)) := ((Below.refl _ _).alloc (Nat.le_refl _) _).drew
          have HFa : Hid (FiveAt ((wc.alloc (.cells #[.int .i64 0, .int .i64 0, .string ⟨#[]⟩, .slice none 0 0, .slice none 0 0] 60)).drew) wc.heap.size (.int .i64 0) (.int .i64 0) (.string ⟨#[]⟩) (.slice none 0 0) (.slice none 0 0)) := fiveAt_new wc (.int .i64 0) (.int .i64 0) (.string ⟨#[]⟩) (.slice none 0 0) (.slice none 0 0) 60
          have HFF : Hid (FiveAt wc w.heap.size (.int .i64 k) (.int .i64 n) (.string tx) (.slice an nm.length cn) (.slice (some ⟨g, 0, none⟩) ks.length ck) ∧ FiveAt wc (w.heap.size + 1 + 1) (.int .i64 0) (.int .i64 0) (.string ⟨#[]⟩) (.slice none 0 0) (.slice none 0 0) ∧ w.heap.size + 3 ≤ wc.heap.size ∧ Below w.heap.size w wc) := ⟨HF.out.1, hZ1, hz1, hB1⟩
          have HAR : Hid (ArgS w (some ⟨b, off + 1, none⟩) m (fun i => f (i + 1))) := .inr ⟨b, off + 1, rfl, hb, fun q hq => by
            have := HAT.out (q + 1) (by omega)
            rwa [show off + (q + 1) = off + 1 + q by omega] at this⟩
          clear hZ1 hB1 HF
          by_cases hca1 : ca = 1
          · subst hca1
            obtain rfl : m = 0 := by omega
            go_region_held3 (fun w' => w'.cell? ⟨w.heap.size, 4, none⟩ = some (.slice (some ⟨g, 0, none⟩) ks.length ck) ∧ w'.cell? ⟨g, i * 5, none⟩ = some (.int .i64 zk) ∧ w'.cell? ⟨g, i * 5 + 1, none⟩ = some (.int .i64 zn) ∧ w'.cell? ⟨g, i * 5 + 2, none⟩ = some (.string zt) ∧ w'.cell? ⟨g, i * 5 + 3, none⟩ = some (.slice zan zmn zcn) ∧ w'.cell? ⟨g, i * 5 + 4, none⟩ = some (.slice zak zmk zck) ∧ w'.cell? ⟨w.heap.size + 1, 0, none⟩ = some (.int .i64 xk) ∧ w'.cell? ⟨w.heap.size + 1, 1, none⟩ = some (.int .i64 xn) ∧ w'.cell? ⟨w.heap.size + 1, 2, none⟩ = some (.string xt) ∧ w'.cell? ⟨w.heap.size + 1, 3, none⟩ = some (.slice xan xmn xcn) ∧ w'.cell? ⟨w.heap.size + 1, 4, none⟩ = some (.slice xak xmk xck)) (first | (with_reducible exact HSG) | (with_reducible exact HS8) | exact ⟨x4, c0, c1, c2, c3, c4, u0, u1, u2, u3, u4⟩ | go_keep | fail)
              (first | (go_at_call 31; refine (HCALL.out wc.drew (some ⟨b, off, none⟩) 0 HBd.out (by omega) (.inl rfl)).mono ?_; rintro e w1 ⟨k7, n7, t7, an7, mn7, cn7, ak7, mk7, ck7, rfl, htr7, hb7⟩; have hB7 : Below wc.heap.size wc w1 := HBd.out.trans hb7; have HSG := HSK.out w1 hB7; have hz7 : wc.heap.size ≤ w1.heap.size := hB7.size) | (go_at_call 31; refine (HCALL.out ((wc.alloc (.cells #[.int .i64 0, .int .i64 0, .string ⟨#[]⟩, .slice none 0 0, .slice none 0 0] 60)).drew) (some ⟨b, off, none⟩) 0 HBa.out (by omega) (.inl rfl)).mono ?_; rintro e w1 ⟨k7, n7, t7, an7, mn7, cn7, ak7, mk7, ck7, rfl, htr7, hb7⟩; have hB7 : Below wc.heap.size wc w1 := HBa.out.trans (hb7.mono (by show _ ≤ (wc.alloc _).heap.size; simp)); have HSG := HSK.out w1 hB7; have hz7 : wc.heap.size + 1 ≤ w1.heap.size := (by have := hb7.size; change (wc.alloc _).heap.size ≤ _ at this; rw [World.size_alloc] at this; exact this); have HZ7 : Hid (FiveAt w1 wc.heap.size (.int .i64 0) (.int .i64 0) (.string ⟨#[]⟩) (.slice none 0 0) (.slice none 0 0)) := HFa.out.below hb7 (by show _ < (wc.alloc _).heap.size; simp); have HS8 := HSK.out _ (hB7.trans (((HZ7.out.set (.int .i64 k7) (.int .i64 n7) (.string t7) (.slice an7 mn7 cn7) (.slice ak7 mk7 ck7)).2 wc.heap.size).below (Nat.le_refl _) (Nat.le_refl _))); obtain ⟨⟨z0, z1, z2, z3, z4⟩, q0, q1, q2, q3, q4⟩ := HZ7.out))
            · have hal : Below w1.heap.size w1 (w1.alloc (.cells #[.int .i64 k7, .int .i64 n7, .string t7, .slice an7 mn7 cn7, .slice ak7 mk7 ck7] 60)) := (Below.refl _ _).alloc (Nat.le_refl _) _
              have hB8 : Below wc.heap.size wc (w1.alloc (.cells #[.int .i64 k7, .int .i64 n7, .string t7, .slice an7 mn7 cn7, .slice ak7 mk7 ck7] 60)) := hB7.trans (hal.mono hz7)
              have hdz : wc.drew.heap.size = wc.heap.size := rfl
              have HG : Hid (FiveAt (w1.alloc (.cells #[.int .i64 k7, .int .i64 n7, .string t7, .slice an7 mn7 cn7, .slice ak7 mk7 ck7] 60)) w1.heap.size (.int .i64 k7) (.int .i64 n7) (.string t7) (.slice an7 mn7 cn7) (.slice ak7 mk7 ck7) ∧ FiveAt (w1.alloc (.cells #[.int .i64 k7, .int .i64 n7, .string t7, .slice an7 mn7 cn7, .slice ak7 mk7 ck7] 60)) w.heap.size (.int .i64 k) (.int .i64 n) (.string tx) (.slice an nm.length cn) (.slice (some ⟨g, 0, none⟩) ks.length ck) ∧ FiveAt (w1.alloc (.cells #[.int .i64 k7, .int .i64 n7, .string t7, .slice an7 mn7 cn7, .slice ak7 mk7 ck7] 60)) (w.heap.size + 1 + 1) (.int .i64 0) (.int .i64 0) (.string ⟨#[]⟩) (.slice none 0 0) (.slice none 0 0) ∧ (∀ y, R = some y → TreeIs (w1.alloc (.cells #[.int .i64 k7, .int .i64 n7, .string t7, .slice an7 mn7 cn7, .slice ak7 mk7 ck7] 60)) (fun b => (S b ∧ b < w.heap.size) ∨ (w.heap.size + 3 ≤ b ∧ b ≠ w1.heap.size)) y (.agg #[.int .i64 k7, .int .i64 n7, .string t7, .slice an7 mn7 cn7, .slice ak7 mk7 ck7])) ∧ (w.heap.size + 3 ≤ w1.heap.size ∧ w1.heap.size < (w1.alloc (.cells #[.int .i64 k7, .int .i64 n7, .string t7, .slice an7 mn7 cn7, .slice ak7 mk7 ck7] 60)).heap.size) ∧ Below w.heap.size w (w1.alloc (.cells #[.int .i64 k7, .int .i64 n7, .string t7, .slice an7 mn7 cn7, .slice ak7 mk7 ck7] 60))) := ⟨fiveAt_new w1 (.int .i64 k7) (.int .i64 n7) (.string t7) (.slice an7 mn7 cn7) (.slice ak7 mk7 ck7) 60, HFF.out.1.below hB8 (by omega), HFF.out.2.1.below hB8 (by omega), fun y hy => TreeIs.keep (fun b' _ hlt => hal.block b' hlt) (fun b' hS hlt => by rcases hS with h | h; exact .inl h; exact .inr ⟨by omega, by omega⟩) hal.size _ _ (htr7 y hy), ⟨by omega, by simp⟩, HFF.out.2.2.2.trans (hB8.mono (by omega))⟩
              clear hal hB8 htr7 hb7 hB7 HSG
              go_wp2_with fail
              go_meet
              case rel => exact ⟨_, _, _, _, _, _, _, _, _, _, rfl, rfl, HG⟩
            · have HQ := HZ7.out.set (.int .i64 k7) (.int .i64 n7) (.string t7) (.slice an7 mn7 cn7) (.slice ak7 mk7 ck7)
              have hbb := HQ.2
              have hdz : ((wc.alloc (.cells #[.int .i64 0, .int .i64 0, .string ⟨#[]⟩, .slice none 0 0, .slice none 0 0] 60)).drew).heap.size = wc.heap.size + 1 := by show (wc.alloc _).heap.size = _; simp
              have hB8 : Below wc.heap.size wc (((((w1.setCell ⟨wc.heap.size, 0, none⟩ (.int .i64 k7)).setCell ⟨wc.heap.size, 1, none⟩ (.int .i64 n7)).setCell ⟨wc.heap.size, 2, none⟩ (.string t7)).setCell ⟨wc.heap.size, 3, none⟩ (.slice an7 mn7 cn7)).setCell ⟨wc.heap.size, 4, none⟩ (.slice ak7 mk7 ck7)) := hB7.trans ((hbb wc.heap.size).below (Nat.le_refl _) (Nat.le_refl _))
              have HG : Hid (FiveAt (((((w1.setCell ⟨wc.heap.size, 0, none⟩ (.int .i64 k7)).setCell ⟨wc.heap.size, 1, none⟩ (.int .i64 n7)).setCell ⟨wc.heap.size, 2, none⟩ (.string t7)).setCell ⟨wc.heap.size, 3, none⟩ (.slice an7 mn7 cn7)).setCell ⟨wc.heap.size, 4, none⟩ (.slice ak7 mk7 ck7)) wc.heap.size (.int .i64 k7) (.int .i64 n7) (.string t7) (.slice an7 mn7 cn7) (.slice ak7 mk7 ck7) ∧ FiveAt (((((w1.setCell ⟨wc.heap.size, 0, none⟩ (.int .i64 k7)).setCell ⟨wc.heap.size, 1, none⟩ (.int .i64 n7)).setCell ⟨wc.heap.size, 2, none⟩ (.string t7)).setCell ⟨wc.heap.size, 3, none⟩ (.slice an7 mn7 cn7)).setCell ⟨wc.heap.size, 4, none⟩ (.slice ak7 mk7 ck7)) w.heap.size (.int .i64 k) (.int .i64 n) (.string tx) (.slice an nm.length cn) (.slice (some ⟨g, 0, none⟩) ks.length ck) ∧ FiveAt (((((w1.setCell ⟨wc.heap.size, 0, none⟩ (.int .i64 k7)).setCell ⟨wc.heap.size, 1, none⟩ (.int .i64 n7)).setCell ⟨wc.heap.size, 2, none⟩ (.string t7)).setCell ⟨wc.heap.size, 3, none⟩ (.slice an7 mn7 cn7)).setCell ⟨wc.heap.size, 4, none⟩ (.slice ak7 mk7 ck7)) (w.heap.size + 1 + 1) (.int .i64 0) (.int .i64 0) (.string ⟨#[]⟩) (.slice none 0 0) (.slice none 0 0) ∧ (∀ y, R = some y → TreeIs (((((w1.setCell ⟨wc.heap.size, 0, none⟩ (.int .i64 k7)).setCell ⟨wc.heap.size, 1, none⟩ (.int .i64 n7)).setCell ⟨wc.heap.size, 2, none⟩ (.string t7)).setCell ⟨wc.heap.size, 3, none⟩ (.slice an7 mn7 cn7)).setCell ⟨wc.heap.size, 4, none⟩ (.slice ak7 mk7 ck7)) (fun b => (S b ∧ b < w.heap.size) ∨ (w.heap.size + 3 ≤ b ∧ b ≠ wc.heap.size)) y (.agg #[.int .i64 k7, .int .i64 n7, .string t7, .slice an7 mn7 cn7, .slice ak7 mk7 ck7])) ∧ (w.heap.size + 3 ≤ wc.heap.size ∧ wc.heap.size < (((((w1.setCell ⟨wc.heap.size, 0, none⟩ (.int .i64 k7)).setCell ⟨wc.heap.size, 1, none⟩ (.int .i64 n7)).setCell ⟨wc.heap.size, 2, none⟩ (.string t7)).setCell ⟨wc.heap.size, 3, none⟩ (.slice an7 mn7 cn7)).setCell ⟨wc.heap.size, 4, none⟩ (.slice ak7 mk7 ck7)).heap.size) ∧ Below w.heap.size w (((((w1.setCell ⟨wc.heap.size, 0, none⟩ (.int .i64 k7)).setCell ⟨wc.heap.size, 1, none⟩ (.int .i64 n7)).setCell ⟨wc.heap.size, 2, none⟩ (.string t7)).setCell ⟨wc.heap.size, 3, none⟩ (.slice an7 mn7 cn7)).setCell ⟨wc.heap.size, 4, none⟩ (.slice ak7 mk7 ck7))) := ⟨HQ.1, HFF.out.1.below hB8 (by omega), HFF.out.2.1.below hB8 (by omega), fun y hy => tree_past (htr7 y hy) (hbb w1.heap.size) (fun b' hS _ => by rcases hS with h | h <;> omega) (fun b' hS => by rcases hS with h | h; exact .inl h; exact .inr ⟨by omega, by omega⟩), ⟨by omega, by have := (hbb 0).size; omega⟩, HFF.out.2.2.2.trans (hB8.mono (by omega))⟩
              clear HQ hbb hB8 htr7 hb7 hB7 HS8 HSG
              go_wp2_with fail
              go_meet
              case rel => exact ⟨_, _, _, _, _, _, _, _, _, _, rfl, rfl, HG⟩
          · have i3 : m + 1 ≤ ca := by omega
            have i4 : (1 : Int) ≤ ((m + 1 : Nat) : Int) := by omega
            have i5 : 1 ≤ m + 1 := by omega
            have i6 : ((m + 1 : Nat) : Int) ≤ (ca : Int) := by omega
            have i7 : (1 : Int) ≤ (m : Int) + 1 := by omega
            have i8 : (m : Int) + 1 ≤ (ca : Int) := by omega
            have i9 : (0 : Int) ≤ (m : Int) := by omega
            have i10 : (m : Int) + 1 - 1 = (m : Int) := by omega
            have i11 : (0 : Int) < (m : Int) + 1 := by omega
            go_region_held3 (fun w' => w'.cell? ⟨w.heap.size, 4, none⟩ = some (.slice (some ⟨g, 0, none⟩) ks.length ck) ∧ w'.cell? ⟨g, i * 5, none⟩ = some (.int .i64 zk) ∧ w'.cell? ⟨g, i * 5 + 1, none⟩ = some (.int .i64 zn) ∧ w'.cell? ⟨g, i * 5 + 2, none⟩ = some (.string zt) ∧ w'.cell? ⟨g, i * 5 + 3, none⟩ = some (.slice zan zmn zcn) ∧ w'.cell? ⟨g, i * 5 + 4, none⟩ = some (.slice zak zmk zck) ∧ w'.cell? ⟨w.heap.size + 1, 0, none⟩ = some (.int .i64 xk) ∧ w'.cell? ⟨w.heap.size + 1, 1, none⟩ = some (.int .i64 xn) ∧ w'.cell? ⟨w.heap.size + 1, 2, none⟩ = some (.string xt) ∧ w'.cell? ⟨w.heap.size + 1, 3, none⟩ = some (.slice xan xmn xcn) ∧ w'.cell? ⟨w.heap.size + 1, 4, none⟩ = some (.slice xak xmk xck)) (first | (with_reducible exact HSG) | (with_reducible exact HS8) | exact ⟨x4, c0, c1, c2, c3, c4, u0, u1, u2, u3, u4⟩ | go_keep | fail)
              (first | (go_at_call 31; refine (HCALL.out wc.drew (some ⟨b, off + 1, none⟩) (ca - 1) HBd.out (by omega) HAR.out).mono ?_; rintro e w1 ⟨k7, n7, t7, an7, mn7, cn7, ak7, mk7, ck7, rfl, htr7, hb7⟩; have hB7 : Below wc.heap.size wc w1 := HBd.out.trans hb7; have HSG := HSK.out w1 hB7; have hz7 : wc.heap.size ≤ w1.heap.size := hB7.size) | (go_at_call 31; refine (HCALL.out ((wc.alloc (.cells #[.int .i64 0, .int .i64 0, .string ⟨#[]⟩, .slice none 0 0, .slice none 0 0] 60)).drew) (some ⟨b, off + 1, none⟩) (ca - 1) HBa.out (by omega) HAR.out).mono ?_; rintro e w1 ⟨k7, n7, t7, an7, mn7, cn7, ak7, mk7, ck7, rfl, htr7, hb7⟩; have hB7 : Below wc.heap.size wc w1 := HBa.out.trans (hb7.mono (by show _ ≤ (wc.alloc _).heap.size; simp)); have HSG := HSK.out w1 hB7; have hz7 : wc.heap.size + 1 ≤ w1.heap.size := (by have := hb7.size; change (wc.alloc _).heap.size ≤ _ at this; rw [World.size_alloc] at this; exact this); have HZ7 : Hid (FiveAt w1 wc.heap.size (.int .i64 0) (.int .i64 0) (.string ⟨#[]⟩) (.slice none 0 0) (.slice none 0 0)) := HFa.out.below hb7 (by show _ < (wc.alloc _).heap.size; simp); have HS8 := HSK.out _ (hB7.trans (((HZ7.out.set (.int .i64 k7) (.int .i64 n7) (.string t7) (.slice an7 mn7 cn7) (.slice ak7 mk7 ck7)).2 wc.heap.size).below (Nat.le_refl _) (Nat.le_refl _))); obtain ⟨⟨z0, z1, z2, z3, z4⟩, q0, q1, q2, q3, q4⟩ := HZ7.out))
            · have hal : Below w1.heap.size w1 (w1.alloc (.cells #[.int .i64 k7, .int .i64 n7, .string t7, .slice an7 mn7 cn7, .slice ak7 mk7 ck7] 60)) := (Below.refl _ _).alloc (Nat.le_refl _) _
              have hB8 : Below wc.heap.size wc (w1.alloc (.cells #[.int .i64 k7, .int .i64 n7, .string t7, .slice an7 mn7 cn7, .slice ak7 mk7 ck7] 60)) := hB7.trans (hal.mono hz7)
              have hdz : wc.drew.heap.size = wc.heap.size := rfl
              have HG : Hid (FiveAt (w1.alloc (.cells #[.int .i64 k7, .int .i64 n7, .string t7, .slice an7 mn7 cn7, .slice ak7 mk7 ck7] 60)) w1.heap.size (.int .i64 k7) (.int .i64 n7) (.string t7) (.slice an7 mn7 cn7) (.slice ak7 mk7 ck7) ∧ FiveAt (w1.alloc (.cells #[.int .i64 k7, .int .i64 n7, .string t7, .slice an7 mn7 cn7, .slice ak7 mk7 ck7] 60)) w.heap.size (.int .i64 k) (.int .i64 n) (.string tx) (.slice an nm.length cn) (.slice (some ⟨g, 0, none⟩) ks.length ck) ∧ FiveAt (w1.alloc (.cells #[.int .i64 k7, .int .i64 n7, .string t7, .slice an7 mn7 cn7, .slice ak7 mk7 ck7] 60)) (w.heap.size + 1 + 1) (.int .i64 0) (.int .i64 0) (.string ⟨#[]⟩) (.slice none 0 0) (.slice none 0 0) ∧ (∀ y, R = some y → TreeIs (w1.alloc (.cells #[.int .i64 k7, .int .i64 n7, .string t7, .slice an7 mn7 cn7, .slice ak7 mk7 ck7] 60)) (fun b => (S b ∧ b < w.heap.size) ∨ (w.heap.size + 3 ≤ b ∧ b ≠ w1.heap.size)) y (.agg #[.int .i64 k7, .int .i64 n7, .string t7, .slice an7 mn7 cn7, .slice ak7 mk7 ck7])) ∧ (w.heap.size + 3 ≤ w1.heap.size ∧ w1.heap.size < (w1.alloc (.cells #[.int .i64 k7, .int .i64 n7, .string t7, .slice an7 mn7 cn7, .slice ak7 mk7 ck7] 60)).heap.size) ∧ Below w.heap.size w (w1.alloc (.cells #[.int .i64 k7, .int .i64 n7, .string t7, .slice an7 mn7 cn7, .slice ak7 mk7 ck7] 60))) := ⟨fiveAt_new w1 (.int .i64 k7) (.int .i64 n7) (.string t7) (.slice an7 mn7 cn7) (.slice ak7 mk7 ck7) 60, HFF.out.1.below hB8 (by omega), HFF.out.2.1.below hB8 (by omega), fun y hy => TreeIs.keep (fun b' _ hlt => hal.block b' hlt) (fun b' hS hlt => by rcases hS with h | h; exact .inl h; exact .inr ⟨by omega, by omega⟩) hal.size _ _ (htr7 y hy), ⟨by omega, by simp⟩, HFF.out.2.2.2.trans (hB8.mono (by omega))⟩
              clear hal hB8 htr7 hb7 hB7 HSG
              go_wp2_with fail
              go_meet
              case rel => exact ⟨_, _, _, _, _, _, _, _, _, _, rfl, rfl, HG⟩
            · have HQ := HZ7.out.set (.int .i64 k7) (.int .i64 n7) (.string t7) (.slice an7 mn7 cn7) (.slice ak7 mk7 ck7)
              have hbb := HQ.2
              have hdz : ((wc.alloc (.cells #[.int .i64 0, .int .i64 0, .string ⟨#[]⟩, .slice none 0 0, .slice none 0 0] 60)).drew).heap.size = wc.heap.size + 1 := by show (wc.alloc _).heap.size = _; simp
              have hB8 : Below wc.heap.size wc (((((w1.setCell ⟨wc.heap.size, 0, none⟩ (.int .i64 k7)).setCell ⟨wc.heap.size, 1, none⟩ (.int .i64 n7)).setCell ⟨wc.heap.size, 2, none⟩ (.string t7)).setCell ⟨wc.heap.size, 3, none⟩ (.slice an7 mn7 cn7)).setCell ⟨wc.heap.size, 4, none⟩ (.slice ak7 mk7 ck7)) := hB7.trans ((hbb wc.heap.size).below (Nat.le_refl _) (Nat.le_refl _))
              have HG : Hid (FiveAt (((((w1.setCell ⟨wc.heap.size, 0, none⟩ (.int .i64 k7)).setCell ⟨wc.heap.size, 1, none⟩ (.int .i64 n7)).setCell ⟨wc.heap.size, 2, none⟩ (.string t7)).setCell ⟨wc.heap.size, 3, none⟩ (.slice an7 mn7 cn7)).setCell ⟨wc.heap.size, 4, none⟩ (.slice ak7 mk7 ck7)) wc.heap.size (.int .i64 k7) (.int .i64 n7) (.string t7) (.slice an7 mn7 cn7) (.slice ak7 mk7 ck7) ∧ FiveAt (((((w1.setCell ⟨wc.heap.size, 0, none⟩ (.int .i64 k7)).setCell ⟨wc.heap.size, 1, none⟩ (.int .i64 n7)).setCell ⟨wc.heap.size, 2, none⟩ (.string t7)).setCell ⟨wc.heap.size, 3, none⟩ (.slice an7 mn7 cn7)).setCell ⟨wc.heap.size, 4, none⟩ (.slice ak7 mk7 ck7)) w.heap.size (.int .i64 k) (.int .i64 n) (.string tx) (.slice an nm.length cn) (.slice (some ⟨g, 0, none⟩) ks.length ck) ∧ FiveAt (((((w1.setCell ⟨wc.heap.size, 0, none⟩ (.int .i64 k7)).setCell ⟨wc.heap.size, 1, none⟩ (.int .i64 n7)).setCell ⟨wc.heap.size, 2, none⟩ (.string t7)).setCell ⟨wc.heap.size, 3, none⟩ (.slice an7 mn7 cn7)).setCell ⟨wc.heap.size, 4, none⟩ (.slice ak7 mk7 ck7)) (w.heap.size + 1 + 1) (.int .i64 0) (.int .i64 0) (.string ⟨#[]⟩) (.slice none 0 0) (.slice none 0 0) ∧ (∀ y, R = some y → TreeIs (((((w1.setCell ⟨wc.heap.size, 0, none⟩ (.int .i64 k7)).setCell ⟨wc.heap.size, 1, none⟩ (.int .i64 n7)).setCell ⟨wc.heap.size, 2, none⟩ (.string t7)).setCell ⟨wc.heap.size, 3, none⟩ (.slice an7 mn7 cn7)).setCell ⟨wc.heap.size, 4, none⟩ (.slice ak7 mk7 ck7)) (fun b => (S b ∧ b < w.heap.size) ∨ (w.heap.size + 3 ≤ b ∧ b ≠ wc.heap.size)) y (.agg #[.int .i64 k7, .int .i64 n7, .string t7, .slice an7 mn7 cn7, .slice ak7 mk7 ck7])) ∧ (w.heap.size + 3 ≤ wc.heap.size ∧ wc.heap.size < (((((w1.setCell ⟨wc.heap.size, 0, none⟩ (.int .i64 k7)).setCell ⟨wc.heap.size, 1, none⟩ (.int .i64 n7)).setCell ⟨wc.heap.size, 2, none⟩ (.string t7)).setCell ⟨wc.heap.size, 3, none⟩ (.slice an7 mn7 cn7)).setCell ⟨wc.heap.size, 4, none⟩ (.slice ak7 mk7 ck7)).heap.size) ∧ Below w.heap.size w (((((w1.setCell ⟨wc.heap.size, 0, none⟩ (.int .i64 k7)).setCell ⟨wc.heap.size, 1, none⟩ (.int .i64 n7)).setCell ⟨wc.heap.size, 2, none⟩ (.string t7)).setCell ⟨wc.heap.size, 3, none⟩ (.slice an7 mn7 cn7)).setCell ⟨wc.heap.size, 4, none⟩ (.slice ak7 mk7 ck7))) := ⟨HQ.1, HFF.out.1.below hB8 (by omega), HFF.out.2.1.below hB8 (by omega), fun y hy => tree_past (htr7 y hy) (hbb w1.heap.size) (fun b' hS _ => by rcases hS with h | h <;> omega) (fun b' hS => by rcases hS with h | h; exact .inl h; exact .inr ⟨by omega, by omega⟩), ⟨by omega, by have := (hbb 0).size; omega⟩, HFF.out.2.2.2.trans (hB8.mono (by omega))⟩
              clear HQ hbb hB8 htr7 hb7 hB7 HS8 HSG
              go_wp2_with fail
              go_meet
              case rel => exact ⟨_, _, _, _, _, _, _, _, _, _, rfl, rfl, HG⟩
        case rest =>
          obtain ⟨b7, k7, n7, t7, an7, mn7, cn7, ak7, mk7, ck7, rfl, rfl, HG⟩ := hcut
          clear HF e0 e1 e2 e3 e4
          obtain ⟨h7, hV1, hZ1, htr7, hb7, hB1⟩ := HG.out
          cases hR : R with
          | none =>
            have HNN : Hid (setT x (lst f (m + 1)) (.mk k n tx nm ks) = none) := by show _ = _; rw [HN.out, hR]; rfl
            rw [show (none : Option Tr).isSome = false from rfl]
            clear h7 hV1 htr7
            have HQ := hZ1.set (.int .i64 0) (.int .i64 0) (.string ⟨#[]⟩) (.slice none 0 0) (.slice none 0 0)
            obtain ⟨⟨⟨s0, s1, s2, s3, s4⟩, _⟩, hbb⟩ := id HQ
            have HBF : Hid (Below w.heap.size w (((((wc.setCell ⟨w.heap.size + 1 + 1, 0, none⟩ (.int .i64 0)).setCell ⟨w.heap.size + 1 + 1, 1, none⟩ (.int .i64 0)).setCell ⟨w.heap.size + 1 + 1, 2, none⟩ (.string ⟨#[]⟩)).setCell ⟨w.heap.size + 1 + 1, 3, none⟩ (.slice none 0 0)).setCell ⟨w.heap.size + 1 + 1, 4, none⟩ (.slice none 0 0))) := hB1.trans ((hbb w.heap.size).below (Nat.le_refl _) (by omega))
            obtain ⟨⟨v0, v1, v2, v3, v4⟩, y0, y1, y2, y3, y4⟩ := hZ1
            clear HQ hbb
            go_wp2_with fail
            exact bodyPost_ret (v := .tuple #[(.agg #[.int .i64 0, .int .i64 0, .string ⟨#[]⟩, .slice none 0 0, .slice none 0 0]), .bool false]) (by simp [results, Tryz.results31, go_sem, s0, s1, s2, s3, s4]) rfl ⟨_, _, _, _, _, _, _, _, _, by rw [HNN.out]; rfl, fun x hx => by rw [HNN.out] at hx; simp at hx, HBF.out⟩
          | some y =>
            have HNN : Hid (setT x (lst f (m + 1)) (.mk k n tx nm ks) = some (withK (.mk k n tx nm ks) i y)) := by show _ = _; rw [HN.out, hR]; rfl
            have HTY : Hid (TreeIs wc (fun b => (S b ∧ b < w.heap.size) ∨ (w.heap.size + 3 ≤ b ∧ b ≠ b7)) y (.agg #[.int .i64 k7, .int .i64 n7, .string t7, .slice an7 mn7 cn7, .slice ak7 mk7 ck7])) := htr7 y hR
            rw [show (some y : Option Tr).isSome = true from rfl]
            have HTT : Hid (TreeIs wc (fun b => (S b ∧ b < w.heap.size) ∨ (w.heap.size + 3 ≤ b ∧ b ≠ b7)) (.mk k n tx nm ks) (.agg #[.int .i64 k, .int .i64 n, .string tx, .slice an nm.length cn, .slice (some ⟨g, 0, none⟩) ks.length ck])) := TreeIs.keep (fun b' _ hlt => hB1.block b' hlt) (fun b' hS hlt => .inl ⟨hS, hlt⟩) hB1.size _ _ HT.out.1
            obtain ⟨⟨x0, x1, x2, x3, x4⟩, _⟩ := hV1
            obtain ⟨⟨p0, p1, p2, p3, p4⟩, _⟩ := h7
            have HZ1 : Hid (FiveAt wc (w.heap.size + 1 + 1) (.int .i64 0) (.int .i64 0) (.string ⟨#[]⟩) (.slice none 0 0) (.slice none 0 0)) := hZ1
            clear htr7 hZ1 hR
            go_wp2_with fail
            refine (l3With_any _ (.mk k n tx nm ks) y _ _ i _ HTT.out HTY.out hil (show ks.length ≤ 2 ^ 20 by omega)).mono ?_
            rintro e w2 ⟨k2, n2, t2, an2, mn2, cn2, ak2, mk2, ck2, rfl, htr2, hb2⟩
            have hZ2 := HZ1.out.below hb2 (by omega)
            have hB2 : Below w.heap.size w w2 := hB1.trans (hb2.mono hB1.size)
            have HQ : Hid _ := hZ2.set (.int .i64 k2) (.int .i64 n2) (.string t2) (.slice an2 mn2 cn2) (.slice ak2 mk2 ck2)
            have HBF : Hid (Below w.heap.size w (((((w2.setCell ⟨w.heap.size + 1 + 1, 0, none⟩ (.int .i64 k2)).setCell ⟨w.heap.size + 1 + 1, 1, none⟩ (.int .i64 n2)).setCell ⟨w.heap.size + 1 + 1, 2, none⟩ (.string t2)).setCell ⟨w.heap.size + 1 + 1, 3, none⟩ (.slice an2 mn2 cn2)).setCell ⟨w.heap.size + 1 + 1, 4, none⟩ (.slice ak2 mk2 ck2))) := hB2.trans ((HQ.out.2 w.heap.size).below (Nat.le_refl _) (by omega))
            have HTF : Hid (TreeIs (((((w2.setCell ⟨w.heap.size + 1 + 1, 0, none⟩ (.int .i64 k2)).setCell ⟨w.heap.size + 1 + 1, 1, none⟩ (.int .i64 n2)).setCell ⟨w.heap.size + 1 + 1, 2, none⟩ (.string t2)).setCell ⟨w.heap.size + 1 + 1, 3, none⟩ (.slice an2 mn2 cn2)).setCell ⟨w.heap.size + 1 + 1, 4, none⟩ (.slice ak2 mk2 ck2)) (fun b => S b ∨ w.heap.size ≤ b) (withK (.mk k n tx nm ks) i y) (.agg #[.int .i64 k2, .int .i64 n2, .string t2, .slice an2 mn2 cn2, .slice ak2 mk2 ck2])) := tree_past htr2 (HQ.out.2 w2.heap.size) (fun b' hS _ => by rcases hS with (h | h) | h <;> omega) (fun b' hS => by rcases hS with (h | h) | h; exact .inl h.1; exact .inr (by omega); exact .inr (by omega))
            obtain ⟨⟨v0, v1, v2, v3, v4⟩, y0, y1, y2, y3, y4⟩ := hZ2
            clear htr2 hb2
            go_wp2_with fail
            obtain ⟨⟨s0, s1, s2, s3, s4⟩, _⟩ := HQ.out.1
            exact bodyPost_ret (v := .tuple #[(.agg #[.int .i64 k2, .int .i64 n2, .string t2, .slice an2 mn2 cn2, .slice ak2 mk2 ck2]), .bool true]) (by simp [results, Tryz.results31, go_sem, s0, s1, s2, s3, s4]) rfl ⟨_, _, _, _, _, _, _, _, _, by rw [HNN.out]; rfl, fun z hz => by rw [HNN.out] at hz; obtain rfl := Option.some.inj hz; exact HTF.out, HBF.out⟩

end Go.Proofs.YtadlflgflnlhjaaGreatDoor
