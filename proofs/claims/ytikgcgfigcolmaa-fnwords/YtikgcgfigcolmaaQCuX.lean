/- Words of texts and where they stand: the specification's IndexOf. No condition but that they fit in memory. Words that are drawn: those of some texts, spoilt or not. No condition but that they fit in memory. What a cursor and what else stays. No condition. Words that are drawn: the walk. No condition but that they fit in memory. -/
import Derived.Test.YtikgcgfigcolmaaCtS
import Derived.Test.YtikgcgfigcolmaaIxI
import Derived.Test.YtikgcgfigcolmaaWgS
import Derived.Test.YtikgcgfigcolmaaCuT
import Derived.Deep.RegionWith
import Derived.Deep.DeepFit
import Derived.Test.YtikgcgfigcolmaaCuP
namespace Go.Proofs.Ytikgcgfigcolmaa
open Go.RowKit
set_option linter.unusedVariables false

/-- While the words of a text are counted. -/
theorem count_pre {k : Nat} {es : List DEntry} {ws : List ByteArray} (h : IxOk k es) (hk : k ≤ 40) (hw : ws.length ≤ 100) : (∀ y, (getD y [] (textIx k es ws)).length ≤ 2 ^ 20) ∧ Filled (textIx k es ws) ∧ ∀ y, ∀ p ∈ getD y [] (textIx k es ws), 0 ≤ p.1 ∧ p.1 ≤ 2 ^ 20 ∧ 0 ≤ p.2 ∧ p.2 ≤ 2 ^ 20 := by
  have hg := fun y => text_get k y es h.rise h.notYet ws
  refine ⟨fun y => ?_, text_filled _ _ _ h.filled, fun y p hp => ?_⟩
  · rw [hg y, List.length_append]
    have := post_bound h hk y
    split <;> simp <;> omega
  · rw [hg y] at hp
    have hc := cntB_le ws y
    rcases List.mem_append.1 hp with hp | hp
    · have := postOk_mem (h.post y) p hp
      omega
    · split at hp
      · simp at hp
      · have : p = ((k : Int), (cntB y ws : Int)) := by simpa using hp
        rw [this]
        show 0 ≤ (k : Int) ∧ (k : Int) ≤ 2 ^ 20 ∧ 0 ≤ (cntB y ws : Int) ∧ (cntB y ws : Int) ≤ 2 ^ 20
        omega
theorem text_next {t : Int} {es : List DEntry} {ws : List ByteArray} {j : Nat} {x : ByteArray} (h : ws[j]? = some x) : textIx t es (ws.take (j + 1)) = cntW t (textIx t es (ws.take j)) x := by
  rw [List.take_add_one, h]
  show textIx t es (ws.take j ++ [x]) = _
  simp [textIx]
theorem ix_sz {n : Nat} {es : List DEntry} (h : IxOk n es) (hn : n ≤ 40) (hl : es.length ≤ 4000) : (kRow kEntry).sz es ≤ 2 ^ 20 := by
  have key : ∀ l : List DEntry, (∀ p ∈ l, kEntry.sz p ≤ 60) → sums kEntry.sz l ≤ 60 * l.length := by
    intro l
    induction l with
    | nil => intro _; simp [sums]
    | cons p r ih =>
      intro hp
      have h1 := hp p (by simp)
      have h2 := ih fun q hq => hp q (by simp [hq])
      simp only [sums, List.length_cons]
      omega
  have h1 := key es fun p hp => by
    obtain ⟨x, l⟩ := p
    have e : getD x [] es = l := by unfold getD; rw [mem_getK h.rise (x := x) (v := l) hp]; rfl
    have h2 := post_bound h hn x
    rw [e] at h2
    have hw := h.word (x, l) hp
    have hx : x.size ≤ 20 := by
      unfold isWordB isWL at hw
      simp only [decide_eq_true_eq] at hw
      have := (takeW_len 20 x.data.toList).1
      rw [hw.2, data_len] at this
      exact this
    show x.size + (l.length + sums kPosting.sz l) ≤ 60
    have e2 : sums kPosting.sz l = 0 := sums_zero l
    omega
  show es.length + sums kEntry.sz es ≤ _
  omega
set_option maxRecDepth 100000 in
set_option maxHeartbeats 8000000 in
theorem specIndexOf_k (x0 : List ByteArray) (a0 : Option Addr) (n0 c0 : Nat) (S0 : Nat → Prop) (w : World) (h0 : (kRow kStr).is false w S0 [.slice a0 n0 c0] x0) (z0 : (kRow kStr).sz x0 ≤ 2 ^ 20) :
    Calls Try.prog 8 #[.slice a0 n0 c0] w (RIndexOf x0 w) := by
  have HN : Hid (n0 = x0.length) := row_len h0
  have HX : Hid ((kRow kStr).is false w S0 [.slice a0 n0 c0] x0) := h0
  have HZ : Hid ((kRow kStr).sz x0 ≤ 2 ^ 20) := z0
  have hmx : n0 ≤ 9223372036854775807 := by obtain ⟨_, _, _, h, _⟩ := row_form h0; rw [HN.out]; exact h
  clear h0 z0
  by_cases c1 : (40 : Int) < (n0 : Int)
  · go_enter Try.func8, Try.ntmps8
    go_wp2
    refine bodyPost_ret (v := .tuple #[.agg #[.int .i64 0, .slice none 0 0], .bool false]) (by simp [results, Try.results8, go_sem]) rfl ?_
    exact RIndexOf.no (fun h => by have := h.1; rw [← HN.out] at this; omega) (by go_grown)
  have n40 : n0 ≤ 40 := by omega
  obtain ⟨W, hW⟩ : ∃ W, W = (w.alloc (.cells #[.int .i64 0, .slice none 0 0] 27)).alloc (.cells #[.int .i64 n0, .slice none 0 0] 27) := ⟨_, rfl⟩
  have ZW : Hid (W.heap.size = w.heap.size + 2) := by show _ = _; rw [hW]; simp
  have HBW : Hid (Below w.heap.size w W) := by show Below _ _ _; rw [hW]; exact ((Below.refl _ _).alloc (Nat.le_refl _) _).alloc (by simp) _
  have HR0 : Hid (W.cell? ⟨w.heap.size, 0, none⟩ = some (.int .i64 0) ∧ W.cell? ⟨w.heap.size, 1, none⟩ = some (.slice none 0 0) ∧ W.frozen? ⟨w.heap.size, 0, none⟩ = false ∧ W.frozen? ⟨w.heap.size, 1, none⟩ = false) := by rw [hW]; refine ⟨?_, ?_, ?_, ?_⟩ <;> simp [go_sem]
  have HR1 : Hid (W.cell? ⟨w.heap.size + 1, 0, none⟩ = some (.int .i64 n0) ∧ W.cell? ⟨w.heap.size + 1, 1, none⟩ = some (.slice none 0 0) ∧ W.frozen? ⟨w.heap.size + 1, 1, none⟩ = false) := by rw [hW]; refine ⟨?_, ?_, ?_⟩ <;> simp [go_sem]
  go_enter Try.func8, Try.ntmps8
  go_wp2_with fail
  rw [← hW]
  clear hW
  obtain ⟨g, hg⟩ : ∃ g, g = w.heap.size + 1 := ⟨_, rfl⟩
  have HG : Hid (g = w.heap.size + 1) := hg
  have hgW : g < W.heap.size := by rw [ZW.out]; omega
  have hwg : w.heap.size < g := by omega
  rw [← hg] at HR1 ⊢
  clear hg
  go_loopw [18] (fun iv wr => ∃ (k : Nat) (oa : Option Addr) (on oc : Nat) (S : Nat → Prop), k ≤ n0 ∧ iv = .int .i64 k ∧ wr.cell? ⟨g, 0, none⟩ = some (.int .i64 n0) ∧ wr.cell? ⟨g, 1, none⟩ = some (.slice oa on oc) ∧ wr.frozen? ⟨g, 1, none⟩ = false ∧ Hid (EB wr S (.slice oa on oc) (ixOf (x0.take k))) ∧ Hid (∀ q, S q → W.heap.size ≤ q) ∧ Hid (∀ s ∈ x0.take k, s.size ≤ 200) ∧ KeptO (fun q => q = g) W wr) (fun iv _ => n0 - (intOf iv).toNat)
  case atStart => exact ⟨0, none, 0, 0, fun _ => False, Nat.zero_le _, rfl, HR1.out.1, HR1.out.2.1, HR1.out.2.2, EB.nil _ _, (fun q hq => hq.elim), (fun s hs => by simp at hs), KeptO.refl _ _⟩
  case round =>
    obtain ⟨k, oa, on, oc, S, hk, rfl, C0, C1, F1, HE, HS, HT, hnx⟩ := hrel
    obtain ⟨wo, hwo⟩ : ∃ wo, wo = wr := ⟨_, rfl⟩
    subst hwo
    have zw := hnx.size
    have hgo : g < wo.heap.size := by omega
    have HKW : Hid (KeptO (fun q => q = g) W wo) := hnx
    have HBR : Hid (Below w.heap.size w wo) := HBW.out.trans (hnx.below HBW.out.size (fun q hq => by omega))
    have HXR : Hid ((kRow kStr).is false wo S0 [.slice a0 n0 c0] x0) := Kd.below HX.out (HBW.out.trans (hnx.below HBW.out.size (fun q hq => by omega)))
    clear hnx HR1
    by_cases hlt : k < n0
    · obtain ⟨s, hx⟩ : ∃ s, x0[k]? = some s := ⟨_, List.getElem?_eq_getElem (by rw [← HN.out]; exact hlt)⟩
      have HXK : Hid (x0[k]? = some s) := hx
      obtain ⟨tb, toff, TB, TC, rfl, htb, _, hi, _, hc⟩ := row_at HXR.out hx
      obtain ⟨rfl, hsm⟩ := hi
      have K0 : wo.cell? ⟨tb, toff + k, none⟩ = some (.string s) := by
        have := (hc 0 _ rfl).1
        rw [show toff + k * kStr.wd + 0 = toff + k by show toff + k * 1 + 0 = _; omega] at this
        exact this
      have i0 : (0 : Int) ≤ (k : Int) := by omega
      have i1 : (k : Int) < (n0 : Int) := by omega
      have s20 : s.size ≤ 2 ^ 20 := by
        have h1 := sums_ge kStr.sz x0 k s hx
        have h2 : (kRow kStr).sz x0 = x0.length + sums kStr.sz x0 := rfl
        have h3 := HZ.out
        have h4 : kStr.sz s = s.size := rfl
        omega
      clear hc hx
      by_cases c2 : (200 : Int) < (s.size : Int)
      · have HRC : Hid (wo.cell? ⟨w.heap.size, 0, none⟩ = some (.int .i64 0) ∧ wo.cell? ⟨w.heap.size, 1, none⟩ = some (.slice none 0 0) ∧ wo.frozen? ⟨w.heap.size, 0, none⟩ = false ∧ wo.frozen? ⟨w.heap.size, 1, none⟩ = false) := by
          have hn1 : ¬ (w.heap.size = g) := by omega
          have hlw : w.heap.size < W.heap.size := by omega
          rw [HKW.out.cell hlw hn1, HKW.out.cell hlw hn1, HKW.out.frozen hlw hn1, HKW.out.frozen hlw hn1]
          exact HR0.out
        obtain ⟨r0, r1, r2, r3⟩ := HRC.out
        have hwr : w.heap.size < wo.heap.size := by omega
        have HNO : Hid (¬ (x0.length ≤ 40 ∧ (∀ s ∈ x0, s.size ≤ 200) ∧ (ixOf x0).length ≤ 200)) := fun h => by have := h.2.1 s (List.mem_of_getElem? HXK.out); omega
        have HB9 : Hid (∀ u v, Below w.heap.size wo ((wo.setCell ⟨w.heap.size, 0, none⟩ u).setCell ⟨w.heap.size, 1, none⟩ v)) := fun u v => ⟨rfl, rfl, rfl, by simp, fun q hq => by rw [heap_set_ne (by omega), heap_set_ne (by omega)]⟩
        go_wp2
        have q0 : (wo.setCell ⟨w.heap.size, 0, none⟩ (.int .i64 0)).cell? ⟨w.heap.size, 0, none⟩ = some (.int .i64 0) := set_same r0
        have q1 : (wo.setCell ⟨w.heap.size, 0, none⟩ (.int .i64 0)).cell? ⟨w.heap.size, 1, none⟩ = some (.slice none 0 0) := set_other r1 (by decide)
        refine bodyPost_ret (v := .tuple #[.agg #[.int .i64 0, .slice none 0 0], .bool false]) (by simp [results, Try.results8, go_sem, q0, q1]) rfl ?_
        exact RIndexOf.no HNO.out (HBR.out.trans (HB9.out _ _))
      · have c2' : s.size ≤ 200 := by omega
        go_wp2_with fail
        refine (l10In_k s _ s20).mono ?_
        rintro e w1 ⟨wa, wn, wc, rfl, hws, hb1⟩
        have HWS : Hid ((kRow kStr).is false w1 (fun q => wo.heap.size ≤ q) [.slice wa wn wc] (wordsB s)) := Kd.read _ hws
        have HWN : Hid (wn = (wordsB s).length) := row_len hws
        have wn100 : wn ≤ 100 := by rw [HWN.out]; exact words_few c2'
        have HB1 : Hid (Below wo.heap.size wo w1) := hb1
        have z1 := hb1.size
        have hio := ix_take HT.out (by rw [← HN.out]; omega)
        obtain ⟨es, hes⟩ : ∃ es, es = ixOf (x0.take k) := ⟨_, rfl⟩
        have HES : Hid (es = ixOf (x0.take k)) := hes
        rw [← hes] at hio HE
        have HIO : Hid (IxOk k es) := hio
        have HLE : Hid (es.length ≤ 4000) := by
          have h1 := ix_len (l := x0.take k) HT.out k (by rw [List.length_take, ← HN.out]; omega)
          rw [List.take_take, Nat.min_self, ← hes] at h1
          show _ ≤ _
          omega
        have D0 := cell_later hb1 C0
        have D1 := cell_later hb1 C1
        have E1 : w1.frozen? ⟨g, 1, none⟩ = false := (hb1.frozen hgo).trans F1
        have HE1 : Hid (EB w1 (fun q => S q ∧ q < wo.heap.size) (.slice oa on oc) es) := (HE.out.mono (fun q h1 h2 => ⟨h2, h1⟩)).below hb1
        clear hws hb1 hio hes HE C0 C1 F1 K0
        go_wp2_with fail
        go_loopw [30] (fun iv wr => ∃ (j : Nat) (va : Option Addr) (vn vc : Nat) (Sj : Nat → Prop), j ≤ wn ∧ iv = .int .i64 j ∧ wr.cell? ⟨g, 0, none⟩ = some (.int .i64 n0) ∧ wr.cell? ⟨g, 1, none⟩ = some (.slice va vn vc) ∧ wr.frozen? ⟨g, 1, none⟩ = false ∧ Hid (EB wr Sj (.slice va vn vc) (textIx k es ((wordsB s).take j))) ∧ Hid (∀ q, Sj q → W.heap.size ≤ q ∧ (q < wo.heap.size ∨ w1.heap.size ≤ q)) ∧ KeptO (fun q => q = g ∨ (W.heap.size ≤ q ∧ q < wo.heap.size)) w1 wr) (fun iv _ => wn - (intOf iv).toNat)
        case atStart => exact ⟨0, oa, on, oc, _, Nat.zero_le _, rfl, D0, D1, E1, HE1, (fun q hq => ⟨HS.out q hq.1, .inl hq.2⟩), KeptO.refl _ _⟩
        case round =>
          obtain ⟨j, va, vn, vc, Sj, hj, rfl, C0, C1, F1, HJE, HJS, hkj⟩ := hrel
          have HKJ : Hid (KeptO (fun q => q = g ∨ (W.heap.size ≤ q ∧ q < wo.heap.size)) w1 wr) := hkj
          have zj := hkj.size
          have hgr : g < wr.heap.size := by omega
          clear hkj D0 D1 E1
          by_cases hjn : j < wn
          · obtain ⟨x, hx⟩ : ∃ x, (wordsB s)[j]? = some x := ⟨_, List.getElem?_eq_getElem (by rw [← HWN.out]; exact hjn)⟩
            obtain ⟨xb, xoff, XB, XC, rfl, hxb, hxT, hi, _, hc⟩ := row_at HWS.out hx
            obtain ⟨rfl, hxm⟩ := hi
            have X0 : wr.cell? ⟨xb, xoff + j, none⟩ = some (.string x) := by
              have := (hc 0 _ rfl).1
              rw [show xoff + j * kStr.wd + 0 = xoff + j by show xoff + j * 1 + 0 = _; omega] at this
              rw [HKJ.out.cell hxb (by omega)]
              exact this
            have j0 : (0 : Int) ≤ (j : Int) := by omega
            have j1 : (j : Int) < (wn : Int) := by omega
            have HNX : Hid (cntW k (textIx k es ((wordsB s).take j)) x = textIx k es ((wordsB s).take (j + 1))) := (text_next hx).symm
            have HCALL : Hid (∀ W', Below wr.heap.size wr W' → Calls Try.prog 43 #[.slice va vn vc, .string x, .int .i64 k] W' (RCount (textIx k es ((wordsB s).take j)) x k Sj W')) := fun W' hW' => by
              have hwl : ((wordsB s).take j).length ≤ 100 := by rw [List.length_take]; omega
              obtain ⟨p1, p2, p3⟩ := count_pre HIO.out (by omega) hwl
              have hl := text_len k ((wordsB s).take j) es
              have hle := HLE.out
              exact l10Count_k _ va vn vc x k Sj W' (HJE.out.below hW') hxm (by omega) p1 p2 p3 ⟨by omega, by omega⟩
            clear hc hx
            go_wp2_with fail
            refine (HCALL.out wr (Below.refl _ _)).mono ?_
            rintro e w2 ⟨v, rfl, he, hkp⟩
            obtain ⟨va', vc', hv', _⟩ := he.form
            obtain ⟨vn', hvn'⟩ : ∃ vn', vn' = (cntW k (textIx k es ((wordsB s).take j)) x).length := ⟨_, rfl⟩
            rw [← hvn'] at hv'
            subst hv'
            rw [HNX.out] at he
            have hgS : ¬ Sj g := fun h => by have := (HJS.out g h).1; omega
            have D0 : w2.cell? ⟨g, 0, none⟩ = some (.int .i64 n0) := by rw [hkp.cell hgr hgS]; exact C0
            have D1 : w2.cell? ⟨g, 1, none⟩ = some (.slice va vn vc) := by rw [hkp.cell hgr hgS]; exact C1
            have E1 : w2.frozen? ⟨g, 1, none⟩ = false := by rw [hkp.frozen hgr hgS]; exact F1
            have HE2 : Hid (EB w2 (fun q => Sj q ∨ wr.heap.size ≤ q) (.slice va' vn' vc') (textIx k es ((wordsB s).take (j + 1)))) := he
            have HK2 : Hid (KeptO (fun q => q = g ∨ (W.heap.size ≤ q ∧ q < wo.heap.size)) w1 w2) := HKJ.out.front hkp (fun q hq h => by have := HJS.out q h; exact .inr ⟨this.1, by omega⟩)
            have ZJ : Hid (w1.heap.size ≤ wr.heap.size) := zj
            clear he hkp hvn' hgS C0 C1 F1 X0
            go_wp2
            go_roundw
            case rel =>
              have hset : ∀ u : Value, KeptO (fun q => q = g) w2 (w2.setCell ⟨g, 1, none⟩ u) := fun u => ⟨rfl, rfl, rfl, by simp, fun q _ hq => heap_set_ne hq⟩
              refine ⟨j + 1, va', vn', vc', _, by omega, by go_num, set_other D0 (by decide), set_same D1, by rw [World.frozen?_setCell]; exact E1, HE2.out.kept (hset _) (fun q hq e => ?_), fun q hq => ?_, HK2.out.front (hset _) (fun q _ e => .inl e)⟩
              · rcases hq with hq | hq
                · have := (HJS.out q hq).1; omega
                · omega
              · rcases hq with hq | hq
                · exact HJS.out q hq
                · have := ZJ.out
                  exact ⟨by omega, .inr (by omega)⟩
            case measure => simp [intOf]; omega
          · have j1 : ¬ (j : Int) < (wn : Int) := by omega
            have hjw : j = wn := by omega
            subst hjw
            have HEN : Hid (EB wr Sj (.slice va vn vc) (ixOf (x0.take (k + 1)))) := by
              have h := HJE.out
              rw [HWN.out, List.take_length, HES.out] at h
              rw [ixOf_next HXK.out]
              exact h
            have HTN : Hid (∀ z ∈ x0.take (k + 1), z.size ≤ 200) := fun z hz => by
              rw [List.take_add_one, HXK.out] at hz
              rcases List.mem_append.1 hz with h | h
              · exact HT.out z h
              · have : z = s := by simpa using h
                rw [this]
                exact c2'
            have HKN2 : Hid (KeptO (fun q => q = g) W wr) := (HKW.out.front (KeptO.of (S := fun _ => False) HB1.out) (fun q _ h => h.elim)).front HKJ.out (fun q hq e => by
              rcases e with e | e
              · exact e
              · omega)
            have HSN : Hid (∀ q, Sj q → W.heap.size ≤ q) := fun q hq => (HJS.out q hq).1
            clear HJE HKJ HJS
            go_wp2
            go_roundw
            case rel => exact ⟨k + 1, va, vn, vc, Sj, by omega, by go_num, C0, C1, F1, HEN, HSN, HTN, HKN2.out⟩
            case measure => simp [intOf]; omega
    · have i1 : ¬ (k : Int) < (n0 : Int) := by omega
      have hkn : k = n0 := by omega
      subst hkn
      have HT0 : Hid (∀ s ∈ x0, s.size ≤ 200) := by have h := HT.out; rw [HN.out, List.take_length] at h; exact h
      have hio : IxOk k (ixOf x0) := by have h := ix_take HT.out (by rw [← HN.out]; omega); rw [HN.out, List.take_length, ← HN.out] at h; exact h
      have HE0 : Hid (EB wo S (.slice oa on oc) (ixOf x0)) := by have h := HE.out; rw [HN.out, List.take_length] at h; exact h
      have hle : (ixOf x0).length ≤ 4000 := by
        have h2 := ix_len HT0.out x0.length (Nat.le_refl _)
        rw [List.take_length, ← HN.out] at h2
        omega
      have hsm := ix_small hio n40 (by omega)
      have HKS : Hid (kWords.is false wo S [.int .i64 k, .slice oa on oc] ((k : Int), ixOf x0)) := Kd.read _ (kWords_shut (by unfold IntOk; omega) (HE0.out.row hsm) (fun q hq => hq))
      have HSZ : Hid (kWords.sz ((k : Int), ixOf x0) ≤ 2 ^ 20) := by
        have h1 := ix_sz hio n40 hle
        have h2 : kWords.sz ((k : Int), ixOf x0) = 0 + (kRow kEntry).sz (ixOf x0) := rfl
        show _ ≤ _
        omega
      have HGW : Hid (fGoodWords ((k : Int), ixOf x0) = decide ((ixOf x0).length ≤ 200)) := by
        have h := ix_good (l := x0) (by rw [← HN.out]; exact n40) HT0.out
        rw [← HN.out] at h
        exact h
      have HRC : Hid (∀ w1, Below wo.heap.size wo w1 → w1.cell? ⟨w.heap.size, 0, none⟩ = some (.int .i64 0) ∧ w1.cell? ⟨w.heap.size, 1, none⟩ = some (.slice none 0 0) ∧ w1.frozen? ⟨w.heap.size, 0, none⟩ = false ∧ w1.frozen? ⟨w.heap.size, 1, none⟩ = false) := fun w1 hb => by
        have hn1 : ¬ (w.heap.size = g) := by omega
        have hlw : w.heap.size < W.heap.size := by omega
        rw [hb.cell (by show w.heap.size < wo.heap.size; omega), hb.cell (by show w.heap.size < wo.heap.size; omega), hb.frozen (by show w.heap.size < wo.heap.size; omega), hb.frozen (by show w.heap.size < wo.heap.size; omega), HKW.out.cell hlw hn1, HKW.out.cell hlw hn1, HKW.out.frozen hlw hn1, HKW.out.frozen hlw hn1]
        exact HR0.out
      clear hio hle hsm HE
      go_wp2_with fail
      refine (specGoodWords_k ((k : Int), ixOf x0) [.int .i64 k, .slice oa on oc] S _ HKS.out HSZ.out).mono ?_
      rintro e w1 ⟨rfl, hb⟩
      rw [HGW.out]
      have HB9 : Hid (∀ u v, Below w.heap.size w1 ((w1.setCell ⟨w.heap.size, 0, none⟩ u).setCell ⟨w.heap.size, 1, none⟩ v)) := fun u v => ⟨rfl, rfl, rfl, by simp, fun q hq => by rw [heap_set_ne (by omega), heap_set_ne (by omega)]⟩
      obtain ⟨r0, r1, r2, r3⟩ := HRC.out w1 hb
      have hwr : w.heap.size < w1.heap.size := by have := hb.size; omega
      have HBN : Hid (Below w.heap.size w w1) := HBR.out.trans (hb.mono HBR.out.size)
      have HE1 : Hid (EB w1 S (.slice oa on oc) (ixOf x0)) := HE0.out.below hb
      have D0 := cell_later hb C0
      have D1 := cell_later hb C1
      clear hb C0 C1 F1
      by_cases hl : (ixOf x0).length ≤ 200
      · rw [decide_eq_true hl]
        have HL2 : Hid ((ixOf x0).length ≤ 200) := hl
        clear hl
        go_wp2
        have q0 : (w1.setCell ⟨w.heap.size, 0, none⟩ (.int .i64 k)).cell? ⟨w.heap.size, 0, none⟩ = some (.int .i64 k) := set_same r0
        have q1 : (w1.setCell ⟨w.heap.size, 0, none⟩ (.int .i64 k)).cell? ⟨w.heap.size, 1, none⟩ = some (.slice none 0 0) := set_other r1 (by decide)
        refine bodyPost_ret (v := .tuple #[.agg #[.int .i64 k, .slice oa on oc], .bool true]) (by simp [results, Try.results8, go_sem, q0, q1]) rfl ?_
        rw [HN.out]
        refine RIndexOf.yes (S := S) (by rw [← HN.out]; omega) HT0.out HL2.out (HE1.out.kept (S' := fun q => q = w.heap.size) ⟨rfl, rfl, rfl, by simp, fun q _ hq => by rw [heap_set_ne hq, heap_set_ne hq]⟩ (fun q hq e => ?_)) (fun q hq => ?_) (HBN.out.trans (HB9.out _ _))
        · have := HS.out q hq; omega
        · have := HS.out q hq; omega
      · rw [decide_eq_false hl]
        have HNO : Hid (¬ (x0.length ≤ 40 ∧ (∀ s ∈ x0, s.size ≤ 200) ∧ (ixOf x0).length ≤ 200)) := fun h => hl h.2.2
        clear hl
        go_wp2
        have q0 : (w1.setCell ⟨w.heap.size, 0, none⟩ (.int .i64 0)).cell? ⟨w.heap.size, 0, none⟩ = some (.int .i64 0) := set_same r0
        have q1 : (w1.setCell ⟨w.heap.size, 0, none⟩ (.int .i64 0)).cell? ⟨w.heap.size, 1, none⟩ = some (.slice none 0 0) := set_other r1 (by decide)
        refine bodyPost_ret (v := .tuple #[.agg #[.int .i64 0, .slice none 0 0], .bool false]) (by simp [results, Try.results8, go_sem, q0, q1]) rfl ?_
        exact RIndexOf.no HNO.out (HBN.out.trans (HB9.out _ _))
end Go.Proofs.Ytikgcgfigcolmaa
namespace Go.Proofs.Ytikgcgfigcolmaa
open Go.RowKit
set_option linter.unusedVariables false

theorem sums_set_le {α : Type} (f : α → Nat) : ∀ (l : List α) (i : Nat) (x : α), sums f (l.set i x) ≤ sums f l + f x
  | [], i, x => by simp [sums]
  | y :: t, 0, x => by simp only [List.set_cons_zero, sums]; omega
  | y :: t, i + 1, x => by have := sums_set_le f t i x; simp only [List.set_cons_succ, sums]; omega
/-- What an index of some texts is like. -/
structure WordsOk (es : List DEntry) : Prop where
  len : es.length ≤ 200
  ent : ∀ p ∈ es, p.1.size ≤ 20 ∧ p.2 ≠ [] ∧ p.2.length ≤ 40
theorem ix_words (x0 : List ByteArray) : WordsOk (fIndexOf x0).1.2 ∧ IntOk (fIndexOf x0).1.1 := by
  unfold fIndexOf
  split
  · rename_i h
    obtain ⟨h1, h2, h3⟩ := h
    have hk := ix_ok h2 x0.length (Nat.le_refl _)
    rw [List.take_length] at hk
    refine ⟨⟨h3, fun p hp => ?_⟩, by show IntOk (x0.length : Int); unfold IntOk; omega⟩
    obtain ⟨x, l⟩ := p
    have hb := post_bound hk h1 x
    have e : getD x [] (ixOf x0) = l := by unfold getD; rw [mem_getK hk.rise (x := x) (v := l) hp]; rfl
    rw [e] at hb
    have hw := hk.word (x, l) hp
    unfold isWordB isWL at hw
    simp only [decide_eq_true_eq] at hw
    have h20 := (takeW_len 20 x.data.toList).1
    rw [hw.2, data_len] at h20
    exact ⟨h20, hk.filled (x, l) hp, hb⟩
  · exact ⟨⟨Nat.zero_le _, fun p hp => by simp at hp⟩, by show IntOk 0; unfold IntOk; omega⟩
theorem ent_sz (p : DEntry) : kEntry.sz p = p.1.size + p.2.length := by
  show p.1.size + (p.2.length + sums kPosting.sz p.2) = _
  have : sums kPosting.sz p.2 = 0 := sums_zero p.2
  omega
theorem WordsOk.sz {es : List DEntry} (h : WordsOk es) : (kRow kEntry).sz es ≤ 2 ^ 18 := by
  have key : ∀ l : List DEntry, (∀ p ∈ l, p.1.size ≤ 20 ∧ p.2 ≠ [] ∧ p.2.length ≤ 40) → sums kEntry.sz l ≤ 60 * l.length := by
    intro l
    induction l with
    | nil => intro _; simp [sums]
    | cons p r ih =>
      intro hp
      have h1 := hp p (by simp)
      have h2 := ih fun q hq => hp q (by simp [hq])
      have h3 := ent_sz p
      simp only [sums, List.length_cons]
      omega
  have h1 := key es h.ent
  have h2 := h.len
  show es.length + sums kEntry.sz es ≤ _
  omega
theorem set_sz {es : List DEntry} (h : WordsOk es) (k : Nat) (p : DEntry) (hp : p.1.size ≤ 100 ∧ p.2.length ≤ 100) (t : Int) : kWords.sz (t, es.set k p) ≤ 2 ^ 20 := by
  have h1 := h.sz
  have h2 := sums_set_le kEntry.sz es k p
  have h3 := ent_sz p
  have h4 : (kRow kEntry).sz es = es.length + sums kEntry.sz es := rfl
  show 0 + ((es.set k p).length + sums kEntry.sz (es.set k p)) ≤ _
  rw [List.length_set]
  omega
theorem same_sz {es : List DEntry} (h : WordsOk es) (t : Int) : kWords.sz (t, es) ≤ 2 ^ 20 := by
  have h1 := h.sz
  show 0 + (kRow kEntry).sz es ≤ _
  omega
/-- An entry's word written anew. -/
theorem ent_word {w : World} {S : Nat → Prop} {b off n c k : Nat} {es : List DEntry} {x x' : ByteArray} {l : List DPosting} (h : (kRow kEntry).is true w S [.slice (some ⟨b, off, none⟩) n c] es) (hk : es[k]? = some (x, l)) (hx' : x'.size ≤ maxLen) :
    (kRow kEntry).is true (w.setCell ⟨b, off + k * 2, none⟩ (.string x')) S [.slice (some ⟨b, off, none⟩) n c] (es.set k (x', l)) ∧ S b := by
  obtain ⟨b', off', B, C, e, hb, hSb, hnb, hi, hBS, hc, hput⟩ := row_put h hk
  obtain ⟨rfl, rfl⟩ : b = b' ∧ off = off' := by injection e with e; injection e with e1 e2; exact ⟨e1, e2⟩
  obtain ⟨a1, c1, T1, rfl, g0, l1, r1, s1⟩ := kEntry_open hi
  have A0 : w.cell? ⟨b, off + k * 2 + 0, none⟩ = some (.string x) := (hc 0 _ rfl).1
  have A1 : w.cell? ⟨b, off + k * 2 + 1, none⟩ = some (.slice a1 l.length c1) := (hc 1 _ rfl).1
  refine ⟨hput (w.setCell ⟨b, off + k * 2, none⟩ (.string x')) (x', l) [.string x', .slice a1 l.length c1] ((OnlyO.refl _ _ _ _ _).thenSet (o := off + k * 2) (by show off + k * 2 ≤ _; omega) (by show _ < off + k * 2 + 2; omega)) (kEntry_shut hx' (Kd.kept r1 (S' := fun q => q = b) ⟨rfl, rfl, rfl, by simp, fun q _ hq => heap_set_ne hq⟩ (fun q _ h1 h2 => hnb (by have e : q = b := h2; rw [← e]; exact s1 q h1))) s1) (cells_cons (P := fun j u => World.cell? _ ⟨b, off + k * kEntry.wd + j, none⟩ = some u) (by show World.cell? _ ⟨b, off + k * 2 + 0, none⟩ = _; exact set_same A0) (cells_cons (by show World.cell? _ ⟨b, off + k * 2 + 1, none⟩ = _; exact set_other A1 (by omega)) cells_nil)), hSb⟩
/-- An entry's list taken away. -/
theorem ent_nil {w : World} {S : Nat → Prop} {b off n c k : Nat} {es : List DEntry} {x : ByteArray} {l : List DPosting} (h : (kRow kEntry).is true w S [.slice (some ⟨b, off, none⟩) n c] es) (hk : es[k]? = some (x, l)) :
    (kRow kEntry).is true (w.setCell ⟨b, off + k * 2 + 1, none⟩ (.slice none 0 0)) S [.slice (some ⟨b, off, none⟩) n c] (es.set k (x, [])) ∧ S b := by
  obtain ⟨b', off', B, C, e, hb, hSb, hnb, hi, hBS, hc, hput⟩ := row_put h hk
  obtain ⟨rfl, rfl⟩ : b = b' ∧ off = off' := by injection e with e; injection e with e1 e2; exact ⟨e1, e2⟩
  obtain ⟨a1, c1, T1, rfl, g0, l1, r1, s1⟩ := kEntry_open hi
  have A0 : w.cell? ⟨b, off + k * 2 + 0, none⟩ = some (.string x) := (hc 0 _ rfl).1
  have A1 : w.cell? ⟨b, off + k * 2 + 1, none⟩ = some (.slice a1 l.length c1) := (hc 1 _ rfl).1
  refine ⟨hput (w.setCell ⟨b, off + k * 2 + 1, none⟩ (.slice none 0 0)) (x, []) [.string x, .slice none 0 0] ((OnlyO.refl _ _ _ _ _).thenSet (o := off + k * 2 + 1) (by show off + k * 2 ≤ _; omega) (by show _ < off + k * 2 + 2; omega)) (kEntry_shut g0 (row_nil _ _ _ (fun _ => False) _ _) (fun q hq => hq.elim)) (cells_cons (P := fun j u => World.cell? _ ⟨b, off + k * kEntry.wd + j, none⟩ = some u) (by show World.cell? _ ⟨b, off + k * 2 + 0, none⟩ = _; exact set_other A0 (by omega)) (cells_cons (by show World.cell? _ ⟨b, off + k * 2 + 1, none⟩ = _; exact set_same A1) cells_nil)), hSb⟩
/-- The text of an entry's first posting written anew. -/
theorem ent_text {w : World} {S : Nat → Prop} {b off n c k b2 off2 m lc : Nat} {es : List DEntry} {x : ByteArray} {l : List DPosting} {p1 p2 y : Int} (h : (kRow kEntry).is true w S [.slice (some ⟨b, off, none⟩) n c] es) (hk : es[k]? = some (x, l)) (hp : l[0]? = some (p1, p2)) (hA : w.cell? ⟨b, off + k * 2 + 1, none⟩ = some (.slice (some ⟨b2, off2, none⟩) m lc)) (hm : m = l.length) (hy : IntOk y) :
    (kRow kEntry).is true (w.setCell ⟨b2, off2, none⟩ (.int .i64 y)) S [.slice (some ⟨b, off, none⟩) n c] (es.set k (x, l.set 0 (y, p2))) ∧ S b2 := by
  obtain ⟨b', off', B, C, e, hb, hSb, hnb, hi, hBS, hc, hput⟩ := row_put h hk
  obtain ⟨rfl, rfl⟩ : b = b' ∧ off = off' := by injection e with e; injection e with e1 e2; exact ⟨e1, e2⟩
  obtain ⟨a1, c1, T1, rfl, g0, l1, r1, s1⟩ := kEntry_open hi
  have A0 : w.cell? ⟨b, off + k * 2 + 0, none⟩ = some (.string x) := (hc 0 _ rfl).1
  have A1 : w.cell? ⟨b, off + k * 2 + 1, none⟩ = some (.slice a1 l.length c1) := (hc 1 _ rfl).1
  rw [hA] at A1
  obtain ⟨rfl, rfl⟩ : a1 = some ⟨b2, off2, none⟩ ∧ c1 = lc := by
    injection A1 with A1
    injection A1 with h1 _ h2
    exact ⟨h1.symm, h2.symm⟩
  obtain ⟨b3, off3, B3, C3, e3, hb3, hSb3, hnb3, hi3, hBS3, hc3, hput3⟩ := row_put r1 hp
  obtain ⟨rfl, rfl⟩ : b2 = b3 ∧ off2 = off3 := by injection e3 with e; injection e with e1 e2; exact ⟨e1, e2⟩
  obtain ⟨rfl, q0, q1⟩ := kPosting_open hi3
  have P0 : w.cell? ⟨b2, off2 + 0 * 2 + 0, none⟩ = some (.int .i64 p1) := (hc3 0 _ rfl).1
  have P1 : w.cell? ⟨b2, off2 + 0 * 2 + 1, none⟩ = some (.int .i64 p2) := (hc3 1 _ rfl).1
  rw [Nat.zero_mul] at P0 P1
  have hne : b2 ≠ b := fun e => hnb (e ▸ s1 b2 hSb3)
  have hin := hput3 (w.setCell ⟨b2, off2, none⟩ (.int .i64 y)) (y, p2) [.int .i64 y, .int .i64 p2] ((OnlyO.refl _ _ _ _ _).thenSet (o := off2) (v := .int .i64 y) (by show off2 + 0 * 2 ≤ _; omega) (by show _ < off2 + 0 * 2 + 2; omega)) (kPosting_shut hy q1) (cells_cons (P := fun j u => World.cell? _ ⟨b2, off2 + 0 * kPosting.wd + j, none⟩ = some u) (by show World.cell? _ ⟨b2, off2 + 0 * 2 + 0, none⟩ = _; rw [Nat.zero_mul]; exact set_same P0) (cells_cons (by show World.cell? _ ⟨b2, off2 + 0 * 2 + 1, none⟩ = _; rw [Nat.zero_mul]; exact set_other P1 (by omega)) cells_nil))
  have hon : OnlyO B b (off + k * kEntry.wd) (off + k * kEntry.wd + kEntry.wd) w (w.setCell ⟨b2, off2, none⟩ (.int .i64 y)) :=
    ⟨rfl, rfl, rfl, by simp, fun q _ _ hn => heap_set_ne (fun e => hn (e ▸ s1 b2 hSb3)), fun o _ => World.cell?_setCell_other _ _ _ _ (fun e => by injection e with e1 _ _; exact hne e1), fun o => World.frozen?_setCell _ _ _ _⟩
  refine ⟨hput (w.setCell ⟨b2, off2, none⟩ (.int .i64 y)) (x, l.set 0 (y, p2)) [.string x, .slice (some ⟨b2, off2, none⟩) l.length c1] hon (kEntry_shut g0 hin s1) (cells_cons (P := fun j u => World.cell? _ ⟨b, off + k * kEntry.wd + j, none⟩ = some u) (by show World.cell? _ ⟨b, off + k * 2 + 0, none⟩ = _; rw [World.cell?_setCell_other _ _ _ _ (fun e => by injection e with e1 _ _; exact hne e1)]; exact A0) (cells_cons (by show World.cell? _ ⟨b, off + k * 2 + 1, none⟩ = _; rw [World.cell?_setCell_other _ _ _ _ (fun e => by injection e with e1 _ _; exact hne e1), hA, hm]) cells_nil)), hBS b2 (s1 b2 hSb3)⟩
/-- Some words, in memory of their own. -/
def RWd (w : World) (g : Nat) (S : Nat → Prop) (m : Int) (e : Ending) (w' : World) : Prop := ∃ (a : Option Addr) (n c : Nat) (T : Nat → Prop) (t : Int) (es : List DEntry), e = .returned (.agg #[.int .i64 t, .slice a n c]) ∧ kWords.is true w' T [.int .i64 t, .slice a n c] (t, es) ∧ (∀ k, T k → w.heap.size ≤ k) ∧ kWords.sz (t, es) ≤ 2 ^ 20 ∧ CurAt w' g S m ∧ KeptO (fun k => k = g) w w'
end Go.Proofs.Ytikgcgfigcolmaa
namespace Go.Proofs.Ytikgcgfigcolmaa
open Go.RowKit
set_option linter.unusedVariables false

theorem CurAt.up {w w' : World} {g B : Nat} {S : Nat → Prop} {m : Int} (h : CurAt w g S m) (hb : Below B w w') (hB : B ≤ w.heap.size) (hg : g < B) (hS : ∀ k, S k → k < B) : CurAt w' g S m :=
  h.kept (S' := fun k => B ≤ k) ⟨hb.os, hb.tape, hb.output, hb.size, fun k _ hn => hb.block k (by omega)⟩ (by omega) (fun k hk => by have := hS k hk; omega)
theorem CurAt.drew {w : World} {g : Nat} {S : Nat → Prop} {m : Int} (h : CurAt w g S m) : CurAt w.drew g S m := h.below (Below.refl _ _).drew
theorem wrap_small {y : Int} (h0 : 0 ≤ y) (h1 : y ≤ 2 ^ 40) : IntKind.i64.wrap y = y := by
  simp [IntKind.wrap, IntKind.bits, IntKind.signed]
  omega
theorem keptF {A B : Nat → Prop} {w0 w w' : World} (h : KeptO A w0 w) (k : KeptO B w w') (hs : ∀ q, q < w0.heap.size → B q → A q) : KeptO A w0 w' :=
  ⟨k.os.trans h.os, k.tape.trans h.tape, k.output.trans h.output, Nat.le_trans h.size k.size, fun q hq hn => (k.block q (Nat.lt_of_lt_of_le hq h.size) (fun e => hn (hs q hq e))).trans (h.block q hq hn)⟩
end Go.Proofs.Ytikgcgfigcolmaa
namespace Go.Proofs.Ytikgcgfigcolmaa
open Go.RowKit
set_option linter.unusedVariables false

theorem wd_fin {w W : World} {g : Nat} {S T1 : Nat → Prop} {m t : Int} {a : Option Addr} {n c : Nat} {es : List DEntry} (ht : IntOk t) (he : (kRow kEntry).is true W T1 [.slice a n c] es) (hT : ∀ q, T1 q → w.heap.size + 1 ≤ q) (hsz : kWords.sz (t, es) ≤ 2 ^ 20) (hc : CurAt W g S m) (hk : KeptO (fun q => q = g) w W) (hg : g < w.heap.size) (hS : ∀ q, S q → q < w.heap.size) :
    RWd w g S m (.returned (.agg #[.int .i64 t, .slice a n c])) ((W.setCell ⟨w.heap.size, 0, none⟩ (.int .i64 t)).setCell ⟨w.heap.size, 1, none⟩ (.slice a n c)) := by
  have hks : KeptO (fun q => q = w.heap.size) W ((W.setCell ⟨w.heap.size, 0, none⟩ (.int .i64 t)).setCell ⟨w.heap.size, 1, none⟩ (.slice a n c)) := ⟨rfl, rfl, rfl, by simp, fun q _ hq => by rw [heap_set_ne hq, heap_set_ne hq]⟩
  exact ⟨a, n, c, T1, t, es, rfl, kWords_shut ht (Kd.kept he hks (fun q _ h1 h2 => by have e : q = w.heap.size := h2; have := hT q h1; omega)) (fun q hq => hq), fun q hq => by have := hT q hq; omega, hsz, hc.kept hks (fun e => by have e' : g = w.heap.size := e; omega) (fun q hq e => by have e' : q = w.heap.size := e; have := hS q hq; omega), keptF hk hks (fun q hq e => by have e' : q = w.heap.size := e; omega)⟩
set_option maxRecDepth 100000 in
set_option maxHeartbeats 8000000 in
theorem words_k (w : World) (g : Nat) (S : Nat → Prop) (m : Int) (h : CurAt w g S m) (hm : m ≤ 2 ^ 38) (hg : g < w.heap.size) (hS : ∀ k, S k → k < w.heap.size) :
    Calls Try.prog 45 #[.pointer (some ⟨g, 0, none⟩)] w (RWd w g S (m + 1010)) := by
  have H : Hid (CurAt w g S m) := h
  have HSL : Hid (∀ k, S k → k < w.heap.size) := hS
  clear h hS
  obtain ⟨W0, hW0⟩ : ∃ W0, W0 = w.alloc (.cells #[.int .i64 0, .slice none 0 0] 27) := ⟨_, rfl⟩
  have HBW0 : Hid (Below w.heap.size w W0) := by show Below _ _ _; rw [hW0]; exact below_a1' _ _
  have ZW0 : Hid (W0.heap.size = w.heap.size + 1) := by show _ = _; rw [hW0]; simp
  have HR0 : Hid (W0.cell? ⟨w.heap.size, 0, none⟩ = some (.int .i64 0) ∧ W0.cell? ⟨w.heap.size, 1, none⟩ = some (.slice none 0 0) ∧ W0.frozen? ⟨w.heap.size, 0, none⟩ = false ∧ W0.frozen? ⟨w.heap.size, 1, none⟩ = false) := by rw [hW0]; refine ⟨?_, ?_, ?_, ?_⟩ <;> simp [go_sem]
  go_enter Try.func45, Try.ntmps45
  go_wp2_with fail
  rw [← hW0]
  clear hW0
  refine (texts_k W0 g S m (H.out.below HBW0.out) (by omega) (by rw [ZW0.out]; omega) (fun q hq => by have := HSL.out q hq; have := ZW0.out; omega)).mono ?_
  rintro e w1 ⟨ta, tn, tc, T, x0, rfl, ht, hT, hN, hB, hc, hk⟩
  have HX : Hid ((kRow kStr).is true w1 T [.slice ta tn tc] x0) := ht
  have HC1 : Hid (CurAt w1 g S (m + 1000)) := hc
  have HK1 : Hid (KeptO (fun k => k = g) W0 w1) := hk
  have HZ : Hid ((kRow kStr).sz x0 ≤ 2 ^ 20) := by
    have key : ∀ l : List ByteArray, (∀ s ∈ l, s.size ≤ 300) → sums kStr.sz l ≤ 300 * l.length := by
      intro l
      induction l with
      | nil => intro _; simp [sums]
      | cons s r ih =>
        intro hs
        have h1 := hs s (by simp)
        have h2 := ih fun q hq => hs q (by simp [hq])
        have h3 : kStr.sz s = s.size := rfl
        simp only [sums, List.length_cons]
        omega
    have := key x0 hB
    show x0.length + sums kStr.sz x0 ≤ _
    omega
  clear ht hT hN hB hc hk
  go_wp2_with fail
  refine (specIndexOf_k x0 ta tn tc T w1 (Kd.read _ HX.out) HZ.out).mono ?_
  rintro e w2 ⟨C0, T0, rfl, hw, hT0, _, hb2⟩
  obtain ⟨hwo, htx⟩ := ix_words x0
  generalize (fIndexOf x0).2 = fok at *
  obtain ⟨⟨t, es⟩, hd⟩ : ∃ d, d = (fIndexOf x0).1 := ⟨_, rfl⟩
  rw [← hd] at hw hwo htx
  obtain ⟨a, c, T1, rfl, g0, hmx, hr, hs1⟩ := kWords_open hw
  have HWO : Hid (WordsOk es) := hwo
  have HTX : Hid (IntOk t) := g0
  have HE2 : Hid ((kRow kEntry).is true w2 T1 [.slice a es.length c] es) := hr
  have HT2 : Hid (∀ q, T1 q → w1.heap.size ≤ q) := fun q hq => hT0 q (hs1 q hq)
  have HC2 : Hid (CurAt w2 g S (m + 1000)) := HC1.out.below hb2
  have HK2 : Hid (KeptO (fun k => k = g) W0 w2) := HK1.out.low (hb2.mono HK1.out.size)
  have zW : W0.heap.size ≤ w1.heap.size := HK1.out.size
  have z2 : w1.heap.size ≤ w2.heap.size := hb2.size
  obtain ⟨n, hn⟩ : ∃ n, n = es.length := ⟨_, rfl⟩
  have HN : Hid (n = es.length) := hn
  have n200 : n ≤ 200 := by rw [hn]; exact hwo.len
  rw [← hn] at HE2 ⊢
  clear hw hT0 hb2 hd hwo htx hmx hr hs1 g0 HX HZ HC1 HK1
  obtain ⟨W3, hW3⟩ : ∃ W3, W3 = w2.alloc (.cells #[.int .i64 t, .slice a n c] 27) := ⟨_, rfl⟩
  have hb3 : Below w2.heap.size w2 W3 := by rw [hW3]; exact below_a1' _ _
  have HE3 : Hid ((kRow kEntry).is true W3 (fun q => T1 q ∧ q < w2.heap.size) [.slice a n c] es) := Kd.below (Kd.tight _ HE2.out (fun q h1 h2 => ⟨h2, h1⟩)) hb3
  have HC3 : Hid (CurAt W3 g S (m + 1000)) := HC2.out.below hb3
  have HK3 : Hid (KeptO (fun k => k = g) W0 W3) := HK2.out.low (hb3.mono HK2.out.size)
  have Z3 : Hid (W3.heap.size = w2.heap.size + 1) := by show _ = _; rw [hW3]; simp
  obtain ⟨b3, hb3'⟩ : ∃ b3, b3 = w2.heap.size := ⟨_, rfl⟩
  have HB3 : Hid (b3 = w2.heap.size) := hb3'
  have HD3 : Hid (W3.cell? ⟨b3, 0, none⟩ = some (.int .i64 t) ∧ W3.cell? ⟨b3, 1, none⟩ = some (.slice a n c)) := by rw [hW3, hb3']; refine ⟨?_, ?_⟩ <;> simp [go_sem]
  have HT3 : Hid (∀ q, (T1 q ∧ q < w2.heap.size) → w.heap.size + 1 ≤ q ∧ q ≠ b3) := fun q hq => by have := HT2.out q hq.1; have := ZW0.out; have := HB3.out; omega
  -- what any later world keeps
  have KEEP : Hid (∀ w', KeptO (fun q => q = g) W3 w' → (w'.cell? ⟨b3, 0, none⟩ = some (.int .i64 t) ∧ w'.cell? ⟨b3, 1, none⟩ = some (.slice a n c)) ∧ (w'.cell? ⟨w.heap.size, 0, none⟩ = some (.int .i64 0) ∧ w'.cell? ⟨w.heap.size, 1, none⟩ = some (.slice none 0 0) ∧ w'.frozen? ⟨w.heap.size, 0, none⟩ = false ∧ w'.frozen? ⟨w.heap.size, 1, none⟩ = false) ∧ (kRow kEntry).is true w' (fun q => T1 q ∧ q < w2.heap.size) [.slice a n c] es ∧ KeptO (fun q => q = g) w w') := fun w' hk => by
    have hbg : b3 ≠ g := by have := HB3.out; have := ZW0.out; omega
    have hwg : w.heap.size ≠ g := by omega
    have hk0 := HK3.out.trans hk
    refine ⟨⟨cell_keptO hk HD3.out.1 hbg, cell_keptO hk HD3.out.2 hbg⟩, ⟨cell_keptO hk0 HR0.out.1 hwg, cell_keptO hk0 HR0.out.2.1 hwg, frozen_keptO hk0 HR0.out.1 HR0.out.2.2.1 hwg, frozen_keptO hk0 HR0.out.2.1 HR0.out.2.2.2 hwg⟩, Kd.kept HE3.out hk (fun q _ h1 h2 => by have e : q = g := h2; have := (HT3.out q h1).1; omega), keptF (KeptO.of HBW0.out) hk0 (fun q _ e => e)⟩
  have hgW3 : g < W3.heap.size := by have := Z3.out; have := ZW0.out; omega
  clear HE2 HC2 HK2 hb3 HD3
  clear hn
  go_upto_region 2 with fail
  rw [← hW3, ← hb3']
  clear hW3 hb3'
  by_cases hn0 : n = 0
  · obtain ⟨⟨d0, d1⟩, ⟨r0, r1, r2, r3⟩, hE, hK⟩ := KEEP.out W3 (KeptO.refl _ _)
    have HEF : Hid ((kRow kEntry).is true W3 (fun q => T1 q ∧ q < w2.heap.size) [.slice a n c] es) := hE
    have HKF : Hid (KeptO (fun q => q = g) w W3) := hK
    have HCF : Hid (CurAt W3 g S (m + 1010)) := HC3.out.mono (by omega)
    have HSF : Hid (kWords.sz (t, es) ≤ 2 ^ 20) := same_sz HWO.out t
    have zr : w.heap.size < w2.heap.size := by have := ZW0.out; omega
    subst hn0
    clear hE hK KEEP
    go_wp2
    have q0 : (W3.setCell ⟨w.heap.size, 0, none⟩ (.int .i64 t)).cell? ⟨w.heap.size, 0, none⟩ = some (.int .i64 t) := set_same r0
    have q1 : (W3.setCell ⟨w.heap.size, 0, none⟩ (.int .i64 t)).cell? ⟨w.heap.size, 1, none⟩ = some (.slice none 0 0) := set_other r1 (by decide)
    refine bodyPost_ret (v := .agg #[.int .i64 t, .slice a 0 c]) (by simp [results, Try.results45, go_sem, q0, q1]) rfl ?_
    exact wd_fin HTX.out HEF.out (fun q hq => (HT3.out q hq).1) HSF.out HCF.out HKF.out hg HSL.out
  · have hnp : (0 : Int) < (n : Int) := by omega
    obtain ⟨⟨d0, d1⟩, _⟩ := KEEP.out W3 (KeptO.refl _ _)
    go_wp2_with fail
    clear d0 d1
    refine (one_k W3 g S _ 20 HC3.out (by omega) (by omega) (by omega)).mono ?_
    rintro e w4 ⟨bb, rfl, hc4, hk4⟩
    have HC4 : Hid (CurAt w4 g S (m + 1000 + 1)) := hc4
    have HK4 : Hid (KeptO (fun q => q = g) W3 w4) := hk4
    clear hc4 hk4
    cases bb
    · obtain ⟨⟨d0, d1⟩, ⟨r0, r1, r2, r3⟩, hE, hK⟩ := KEEP.out w4 HK4.out
      have HEF : Hid ((kRow kEntry).is true w4 (fun q => T1 q ∧ q < w2.heap.size) [.slice a n c] es) := hE
      have HKF : Hid (KeptO (fun q => q = g) w w4) := hK
      have HSF : Hid (kWords.sz (t, es) ≤ 2 ^ 20) := same_sz HWO.out t
      clear hE hK KEEP
      go_wp2
      have q0 : (w4.setCell ⟨w.heap.size, 0, none⟩ (.int .i64 t)).cell? ⟨w.heap.size, 0, none⟩ = some (.int .i64 t) := set_same r0
      have q1 : (w4.setCell ⟨w.heap.size, 0, none⟩ (.int .i64 t)).cell? ⟨w.heap.size, 1, none⟩ = some (.slice none 0 0) := set_other r1 (by decide)
      refine bodyPost_ret (v := .agg #[.int .i64 t, .slice a n c]) (by simp [results, Try.results45, go_sem, q0, q1]) rfl ?_
      exact wd_fin HTX.out HEF.out (fun q hq => (HT3.out q hq).1) HSF.out (HC4.out.mono (by omega)) HKF.out hg HSL.out
    · obtain ⟨⟨d0, d1⟩, _⟩ := KEEP.out w4 HK4.out
      go_wp2_with fail
      refine (pick_k w4 g S _ n HC4.out (by omega) (by omega) (by omega)).mono ?_
      rintro e w5 ⟨k0, rfl, ⟨k00, k01⟩, hc5, hk5⟩
      obtain ⟨k, rfl⟩ : ∃ k : Nat, k0 = k := ⟨k0.toNat, by omega⟩
      have HC5 : Hid (CurAt w5 g S (m + 1000 + 1 + 1)) := hc5
      have HK5 : Hid (KeptO (fun q => q = g) W3 w5) := HK4.out.trans hk5
      clear hc5 hk5 d0 d1
      go_wp2_with fail
      refine (pick_k w5 g S _ 3 HC5.out (by omega) (by omega) (by omega)).mono ?_
      rintro e w6 ⟨u, rfl, ⟨u0, u1⟩, hc6, hk6⟩
      have HC6 : Hid (CurAt w6 g S (m + 1000 + 1 + 1 + 1)) := hc6
      have HK6 : Hid (KeptO (fun q => q = g) W3 w6) := HK5.out.trans hk6
      clear hc6 hk6
      obtain ⟨⟨d0, d1⟩, ⟨r0, r1, r2, r3⟩, hE, hK⟩ := KEEP.out w6 HK6.out
      obtain ⟨⟨x, l⟩, hx⟩ : ∃ p, es[k]? = some p := ⟨_, List.getElem?_eq_getElem (by rw [← HN.out]; omega)⟩
      have HXK : Hid (es[k]? = some (x, l)) := hx
      obtain ⟨b, off, B, C, rfl, hb, hSb, hi, hBS, hc⟩ := row_at hE hx
      obtain ⟨la, lc, T', rfl, gx, hmm, hl, hTB⟩ := kEntry_open hi
      have E0 : w6.cell? ⟨b, off + k * 2, none⟩ = some (.string x) := (hc 0 _ rfl).1
      have F0 : w6.frozen? ⟨b, off + k * 2, none⟩ = false := (hc 0 _ rfl).2 rfl
      have E1 : w6.cell? ⟨b, off + k * 2 + 1, none⟩ = some (.slice la l.length lc) := (hc 1 _ rfl).1
      have F1 : w6.frozen? ⟨b, off + k * 2 + 1, none⟩ = false := (hc 1 _ rfl).2 rfl
      have HEF : Hid ((kRow kEntry).is true w6 (fun q => T1 q ∧ q < w2.heap.size) [.slice (some ⟨b, off, none⟩) n c] es) := hE
      have HKF : Hid (KeptO (fun q => q = g) w w6) := hK
      obtain ⟨ex1, ex2, ex3⟩ := HWO.out.ent (x, l) (List.mem_of_getElem? hx)
      have ex1' : x.size ≤ 20 := ex1
      have ex3' : l.length ≤ 40 := ex3
      have hbw := (HT3.out b hSb).1
      have hb3n := (HT3.out b hSb).2
      have hwb : w.heap.size ≠ b := by omega
      have k0' : (0 : Int) ≤ (k : Int) := by omega
      have k1' : (k : Int) < (n : Int) := by omega
      clear hc hi hx hmm hE hK
      by_cases hu0 : u = 0
      · subst hu0
        obtain ⟨x', hx'⟩ : ∃ x' : ByteArray, x' = x ++ ⟨#[90]⟩ := ⟨_, rfl⟩
        have hx's : x'.size ≤ 21 := by rw [hx', ByteArray.size_append]; have : (⟨#[90]⟩ : ByteArray).size = 1 := rfl; omega
        obtain ⟨hw1, hw2⟩ := ent_word (x' := x') HEF.out HXK.out (by unfold maxLen; omega)
        obtain ⟨W7, hW7⟩ : ∃ W7, W7 = w6.setCell ⟨b, off + k * 2, none⟩ (.string x') := ⟨_, rfl⟩
        have HSET : Hid (KeptO (fun q => q = b) w6 W7) := by rw [hW7]; exact ⟨rfl, rfl, rfl, by simp, fun q _ hq => heap_set_ne hq⟩
        have r0' := cell_keptO HSET.out r0 (by omega)
        have r1' := cell_keptO HSET.out r1 (by omega)
        have r2' := frozen_keptO HSET.out r0 r2 (by omega)
        have r3' := frozen_keptO HSET.out r1 r3 (by omega)
        have d0' := cell_keptO HSET.out d0 (by omega)
        have d1' := cell_keptO HSET.out d1 (by omega)
        rw [← hW7] at hw1
        have HE7 : Hid ((kRow kEntry).is true W7 (fun q => T1 q ∧ q < w2.heap.size) [.slice (some ⟨b, off, none⟩) n c] (es.set k (x', l))) := hw1
        have HC7 : Hid (CurAt W7 g S (m + 1010)) := (HC6.out.kept HSET.out (fun e => by have e' : g = b := e; omega) (fun q hq e => by have e' : q = b := e; have := HSL.out q hq; omega)).mono (by omega)
        have HK7 : Hid (KeptO (fun q => q = g) w W7) := keptF HKF.out HSET.out (fun q hq e => by have e' : q = b := e; omega)
        clear hw1 hw2
        rw [hW7] at r0' r1' r2' r3' d0' d1' HE7 HC7 HK7
        clear hW7 HSET KEEP
        rw [hx'] at *
        go_wp2
        have q0 : ((w6.setCell ⟨b, off + k * 2, none⟩ (.string (x ++ ⟨#[90]⟩))).setCell ⟨w.heap.size, 0, none⟩ (.int .i64 t)).cell? ⟨w.heap.size, 0, none⟩ = some (.int .i64 t) := set_same r0'
        have q1 : ((w6.setCell ⟨b, off + k * 2, none⟩ (.string (x ++ ⟨#[90]⟩))).setCell ⟨w.heap.size, 0, none⟩ (.int .i64 t)).cell? ⟨w.heap.size, 1, none⟩ = some (.slice none 0 0) := set_other r1' (by decide)
        refine bodyPost_ret (v := .agg #[.int .i64 t, .slice (some ⟨b, off, none⟩) n c]) (by simp [results, Try.results45, go_sem, q0, q1]) rfl ?_
        exact wd_fin HTX.out HE7.out (fun q hq => (HT3.out q hq).1) ((set_sz HWO.out k ((x ++ ⟨#[90]⟩), l) ⟨by show (x ++ ⟨#[90]⟩).size ≤ 100; omega, by show l.length ≤ 100; omega⟩ t)) HC7.out HK7.out hg HSL.out
      · by_cases hu1 : u = 1
        · subst hu1
          obtain ⟨⟨p1, p2⟩, hp⟩ : ∃ p, l[0]? = some p := ⟨_, List.getElem?_eq_getElem (List.length_pos_iff.2 ex2)⟩
          have HPP : Hid (l[0]? = some (p1, p2)) := hp
          obtain ⟨b2, off2, B2, C2, rfl, hb2, hT2, hi2, _, hc2⟩ := row_at hl hp
          obtain ⟨rfl, _, _⟩ := kPosting_open hi2
          have P0 : w6.cell? ⟨b2, off2, none⟩ = some (.int .i64 p1) := by have := (hc2 0 _ rfl).1; rw [Nat.zero_mul] at this; exact this
          have PF : w6.frozen? ⟨b2, off2, none⟩ = false := by have := (hc2 0 _ rfl).2 rfl; rw [Nat.zero_mul] at this; exact this
          have hb2S := HT3.out b2 (hBS b2 (hTB b2 hT2))
          obtain ⟨hb2w, hb2n⟩ := hb2S
          have hb2g : b2 ≠ g := by omega
          have hbg : b ≠ g := by omega
          have hb3g : b3 ≠ g := by have := HB3.out; have := ZW0.out; omega
          obtain ⟨ml, hml⟩ : ∃ ml, ml = l.length := ⟨_, rfl⟩
          have HML : Hid (ml = l.length) := hml
          rw [← hml] at E1 ex3'
          have mlp : (0 : Int) < (ml : Int) := by rw [hml]; have h2 : 0 < l.length := List.length_pos_iff.2 ex2; omega
          have HALL : Hid ((w6.cell? ⟨b2, off2, none⟩ = some (.int .i64 p1) ∧ w6.frozen? ⟨b2, off2, none⟩ = false) ∧ w6.cell? ⟨b3, 1, none⟩ = some (.slice (some ⟨b, off, none⟩) n c) ∧ w6.cell? ⟨b, off + k * 2 + 1, none⟩ = some (.slice (some ⟨b2, off2, none⟩) ml lc)) := ⟨⟨P0, PF⟩, d1, E1⟩
          have HP1 : Hid (Calls Try.prog 80 #[.pointer (some ⟨g, 0, none⟩), .int .i64 9] w6.drew (RNext w6.drew g S (m + 1000 + 1 + 1 + 1 + 1) 9)) := pick_k w6.drew g S _ 9 HC6.out.drew (by omega) (by omega) (by omega)
          have HKD : Hid (KeptO (fun q => q = g) w6 w6.drew) := (KeptO.refl _ _).drew
          have d1d : w6.drew.cell? ⟨b3, 1, none⟩ = some (.slice (some ⟨b, off, none⟩) n c) := d1
          have E1d : w6.drew.cell? ⟨b, off + k * 2 + 1, none⟩ = some (.slice (some ⟨b2, off2, none⟩) ml lc) := E1
          clear hi2 hc2 hp hl hml P0 PF ex2 r0 r1 r2 r3 d0 E0 F0 F1
          go_wp2_with fail
          go_region_with (first
            | (go_at_call 80; go_fit HP1.out; rintro e w7 ⟨y, rfl, ⟨y0, y1⟩, hc7, hk7⟩; have HK7 : Hid (KeptO (fun q => q = g) w6 w7) := HKD.out.trans hk7; have d17 := cell_keptO HK7.out HALL.out.2.1 hb3g; have E17 := cell_keptO HK7.out HALL.out.2.2 hbg; have P7 := cell_keptO HK7.out HALL.out.1.1 hb2g; have PF7 := frozen_keptO HK7.out HALL.out.1.1 HALL.out.1.2 hb2g))
          all_goals
            obtain ⟨⟨d0, d1x⟩, ⟨r0, r1, r2, r3⟩, hE, hK⟩ := KEEP.out w7 (HK6.out.trans HK7.out)
            have hyk : IntOk y := by unfold IntOk; omega
            obtain ⟨hw1, hw2⟩ := ent_text (y := y) hE HXK.out HPP.out E17 HML.out hyk
            have hset : KeptO (fun q => q = b2) w7 (w7.setCell ⟨b2, off2, none⟩ (.int .i64 y)) := ⟨rfl, rfl, rfl, by simp, fun q _ hq => heap_set_ne hq⟩
            have r0' := cell_keptO hset r0 (by omega)
            have r1' := cell_keptO hset r1 (by omega)
            have r2' := frozen_keptO hset r0 r2 (by omega)
            have r3' := frozen_keptO hset r1 r3 (by omega)
            have d0' := cell_keptO hset d0 (by omega)
            have d1' := cell_keptO hset d1x (by omega)
            have HE7 : Hid ((kRow kEntry).is true (w7.setCell ⟨b2, off2, none⟩ (.int .i64 y)) (fun q => T1 q ∧ q < w2.heap.size) [.slice (some ⟨b, off, none⟩) n c] (es.set k (x, l.set 0 (y, p2)))) := hw1
            have HC7 : Hid (CurAt (w7.setCell ⟨b2, off2, none⟩ (.int .i64 y)) g S (m + 1010)) := (hc7.kept hset (fun e => by have e' : g = b2 := e; omega) (fun q hq e => by have e' : q = b2 := e; have := HSL.out q hq; omega)).mono (by omega)
            have HK8 : Hid (KeptO (fun q => q = g) w (w7.setCell ⟨b2, off2, none⟩ (.int .i64 y))) := keptF hK hset (fun q hq e => by have e' : q = b2 := e; omega)
            have HSF : Hid (kWords.sz (t, es.set k (x, l.set 0 (y, p2))) ≤ 2 ^ 20) := set_sz HWO.out k (x, l.set 0 (y, p2)) ⟨by show x.size ≤ 100; omega, by show (l.set 0 (y, p2)).length ≤ 100; rw [List.length_set, ← HML.out]; omega⟩ t
            clear hw1 hw2 hE hK hset hc7 hk7 r0 r1 r2 r3 d0 d1x KEEP d1 d1d E1 E1d
            go_wp2
            have q0 : ((w7.setCell ⟨b2, off2, none⟩ (.int .i64 y)).setCell ⟨w.heap.size, 0, none⟩ (.int .i64 t)).cell? ⟨w.heap.size, 0, none⟩ = some (.int .i64 t) := set_same r0'
            have q1 : ((w7.setCell ⟨b2, off2, none⟩ (.int .i64 y)).setCell ⟨w.heap.size, 0, none⟩ (.int .i64 t)).cell? ⟨w.heap.size, 1, none⟩ = some (.slice none 0 0) := set_other r1' (by decide)
            refine bodyPost_ret (v := .agg #[.int .i64 t, .slice (some ⟨b, off, none⟩) n c]) (by simp [results, Try.results45, go_sem, q0, q1]) rfl ?_
            exact wd_fin HTX.out HE7.out (fun q hq => (HT3.out q hq).1) HSF.out HC7.out HK8.out hg HSL.out
        · have hu2 : u = 2 := by omega
          subst hu2
          obtain ⟨hw1, hw2⟩ := ent_nil HEF.out HXK.out
          obtain ⟨W7, hW7⟩ : ∃ W7, W7 = w6.setCell ⟨b, off + k * 2 + 1, none⟩ (.slice none 0 0) := ⟨_, rfl⟩
          have HSET : Hid (KeptO (fun q => q = b) w6 W7) := by rw [hW7]; exact ⟨rfl, rfl, rfl, by simp, fun q _ hq => heap_set_ne hq⟩
          have r0' := cell_keptO HSET.out r0 (by omega)
          have r1' := cell_keptO HSET.out r1 (by omega)
          have r2' := frozen_keptO HSET.out r0 r2 (by omega)
          have r3' := frozen_keptO HSET.out r1 r3 (by omega)
          have d0' := cell_keptO HSET.out d0 (by omega)
          have d1' := cell_keptO HSET.out d1 (by omega)
          rw [← hW7] at hw1
          have HE7 : Hid ((kRow kEntry).is true W7 (fun q => T1 q ∧ q < w2.heap.size) [.slice (some ⟨b, off, none⟩) n c] (es.set k (x, []))) := hw1
          have HC7 : Hid (CurAt W7 g S (m + 1010)) := (HC6.out.kept HSET.out (fun e => by have e' : g = b := e; omega) (fun q hq e => by have e' : q = b := e; have := HSL.out q hq; omega)).mono (by omega)
          have HK7 : Hid (KeptO (fun q => q = g) w W7) := keptF HKF.out HSET.out (fun q hq e => by have e' : q = b := e; omega)
          clear hw1 hw2
          rw [hW7] at r0' r1' r2' r3' d0' d1' HE7 HC7 HK7
          clear hW7 HSET KEEP
          go_wp2
          have q0 : ((w6.setCell ⟨b, off + k * 2 + 1, none⟩ (.slice none 0 0)).setCell ⟨w.heap.size, 0, none⟩ (.int .i64 t)).cell? ⟨w.heap.size, 0, none⟩ = some (.int .i64 t) := set_same r0'
          have q1 : ((w6.setCell ⟨b, off + k * 2 + 1, none⟩ (.slice none 0 0)).setCell ⟨w.heap.size, 0, none⟩ (.int .i64 t)).cell? ⟨w.heap.size, 1, none⟩ = some (.slice none 0 0) := set_other r1' (by decide)
          refine bodyPost_ret (v := .agg #[.int .i64 t, .slice (some ⟨b, off, none⟩) n c]) (by simp [results, Try.results45, go_sem, q0, q1]) rfl ?_
          exact wd_fin HTX.out HE7.out (fun q hq => (HT3.out q hq).1) ((set_sz HWO.out k (x, []) ⟨by show x.size ≤ 100; omega, by simp⟩ t)) HC7.out HK7.out hg HSL.out
end Go.Proofs.Ytikgcgfigcolmaa
