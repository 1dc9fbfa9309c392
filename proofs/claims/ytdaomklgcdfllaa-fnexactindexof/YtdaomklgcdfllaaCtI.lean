/- Words of texts and where they stand: the specification's IndexOf. No condition but that they fit in memory. -/
import Derived.Test.YtdaomklgcdfllaaCtS
import Derived.Test.YtdaomklgcdfllaaIxI
import Derived.Test.YtdaomklgcdfllaaWgS
namespace Go.Proofs.Ytdaomklgcdfllaa
open Go.RowKit
set_option linter.unusedVariables false

/-- While the words of a text are counted. -/
theorem count_pre {k : Nat} {es : List DEntry} {ws : List ByteArray} (h : IxOk k es) (hk : k ≤ 40) (hw : ws.length ≤ 100) : (∀ y, (getD y [] (textIx k es ws)).length ≤ 2 ^ 20) ∧ Filled (textIx k es ws) ∧ ∀ y, ∀ p ∈ getD y [] (textIx k es ws), 0 ≤ p.1 ∧ p.1 ≤ 2 ^ 20 ∧ 0 ≤ p.2 ∧ p.2 ≤ 2 ^ 20 := by
  have hg := fun y => text_get k y es h.rise h.notYet ws
  refine ⟨fun y => ?_, text_filled _ _ _ h.filled, fun y p hp => ?_⟩
  · rw [hg y, List.length_append]
    have := post_bound h hk y
    split <;> simp <;> omega
  · rw [hg y] at hp
    have hc := cntB_le ws y
    rcases List.mem_append.1 hp with hp | hp
    · have := postOk_mem (h.post y) p hp
      omega
    · split at hp
      · simp at hp
      · have : p = ((k : Int), (cntB y ws : Int)) := by simpa using hp
        rw [this]
        show 0 ≤ (k : Int) ∧ (k : Int) ≤ 2 ^ 20 ∧ 0 ≤ (cntB y ws : Int) ∧ (cntB y ws : Int) ≤ 2 ^ 20
        omega
theorem text_next {t : Int} {es : List DEntry} {ws : List ByteArray} {j : Nat} {x : ByteArray} (h : ws[j]? = some x) : textIx t es (ws.take (j + 1)) = cntW t (textIx t es (ws.take j)) x := by
  rw [List.take_add_one, h]
  show textIx t es (ws.take j ++ [x]) = _
  simp [textIx]
theorem ix_sz {n : Nat} {es : List DEntry} (h : IxOk n es) (hn : n ≤ 40) (hl : es.length ≤ 4000) : (kRow kEntry).sz es ≤ 2 ^ 20 := by
  have key : ∀ l : List DEntry, (∀ p ∈ l, kEntry.sz p ≤ 60) → sums kEntry.sz l ≤ 60 * l.length := by
    intro l
    induction l with
    | nil => intro _; simp [sums]
    | cons p r ih =>
      intro hp
      have h1 := hp p (by simp)
      have h2 := ih fun q hq => hp q (by simp [hq])
      simp only [sums, List.length_cons]
      omega
  have h1 := key es fun p hp => by
    obtain ⟨x, l⟩ := p
    have e : getD x [] es = l := by unfold getD; rw [mem_getK h.rise (x := x) (v := l) hp]; rfl
    have h2 := post_bound h hn x
    rw [e] at h2
    have hw := h.word (x, l) hp
    have hx : x.size ≤ 20 := by
      unfold isWordB isWL at hw
      simp only [decide_eq_true_eq] at hw
      have := (takeW_len 20 x.data.toList).1
      rw [hw.2, data_len] at this
      exact this
    show x.size + (l.length + sums kPosting.sz l) ≤ 60
    have e2 : sums kPosting.sz l = 0 := sums_zero l
    omega
  show es.length + sums kEntry.sz es ≤ _
  omega
set_option maxRecDepth 100000 in
set_option maxHeartbeats 8000000 in
theorem specIndexOf_k (x0 : List ByteArray) (a0 : Option Addr) (n0 c0 : Nat) (S0 : Nat → Prop) (w : World) (h0 : (kRow kStr).is false w S0 [.slice a0 n0 c0] x0) (z0 : (kRow kStr).sz x0 ≤ 2 ^ 20) :
    Calls Try.prog 12 #[.slice a0 n0 c0] w (RIndexOf x0 w) := by
  have HN : Hid (n0 = x0.length) := row_len h0
  have HX : Hid ((kRow kStr).is false w S0 [.slice a0 n0 c0] x0) := h0
  have HZ : Hid ((kRow kStr).sz x0 ≤ 2 ^ 20) := z0
  have hmx : n0 ≤ 9223372036854775807 := by obtain ⟨_, _, _, h, _⟩ := row_form h0; rw [HN.out]; exact h
  clear h0 z0
  by_cases c1 : (40 : Int) < (n0 : Int)
  · go_enter Try.func12, Try.ntmps12
    go_wp2
    refine bodyPost_ret (v := .tuple #[.agg #[.int .i64 0, .slice none 0 0], .bool false]) (by simp [results, Try.results12, go_sem]) rfl ?_
    exact RIndexOf.no (fun h => by have := h.1; rw [← HN.out] at this; omega) (by go_grown)
  have n40 : n0 ≤ 40 := by omega
  obtain ⟨W, hW⟩ : ∃ W, W = (w.alloc (.cells #[.int .i64 0, .slice none 0 0] 26)).alloc (.cells #[.int .i64 n0, .slice none 0 0] 26) := ⟨_, rfl⟩
  have ZW : Hid (W.heap.size = w.heap.size + 2) := by show _ = _; rw [hW]; simp
  have HBW : Hid (Below w.heap.size w W) := by show Below _ _ _; rw [hW]; exact ((Below.refl _ _).alloc (Nat.le_refl _) _).alloc (by simp) _
  have HR0 : Hid (W.cell? ⟨w.heap.size, 0, none⟩ = some (.int .i64 0) ∧ W.cell? ⟨w.heap.size, 1, none⟩ = some (.slice none 0 0) ∧ W.frozen? ⟨w.heap.size, 0, none⟩ = false ∧ W.frozen? ⟨w.heap.size, 1, none⟩ = false) := by rw [hW]; refine ⟨?_, ?_, ?_, ?_⟩ <;> simp [go_sem]
  have HR1 : Hid (W.cell? ⟨w.heap.size + 1, 0, none⟩ = some (.int .i64 n0) ∧ W.cell? ⟨w.heap.size + 1, 1, none⟩ = some (.slice none 0 0) ∧ W.frozen? ⟨w.heap.size + 1, 1, none⟩ = false) := by rw [hW]; refine ⟨?_, ?_, ?_⟩ <;> simp [go_sem]
  go_enter Try.func12, Try.ntmps12
  go_wp2_with fail
  rw [← hW]
  clear hW
  obtain ⟨g, hg⟩ : ∃ g, g = w.heap.size + 1 := ⟨_, rfl⟩
  have HG : Hid (g = w.heap.size + 1) := hg
  have hgW : g < W.heap.size := by rw [ZW.out]; omega
  have hwg : w.heap.size < g := by omega
  rw [← hg] at HR1 ⊢
  clear hg
  go_loopw [18] (fun iv wr => ∃ (k : Nat) (oa : Option Addr) (on oc : Nat) (S : Nat → Prop), k ≤ n0 ∧ iv = .int .i64 k ∧ wr.cell? ⟨g, 0, none⟩ = some (.int .i64 n0) ∧ wr.cell? ⟨g, 1, none⟩ = some (.slice oa on oc) ∧ wr.frozen? ⟨g, 1, none⟩ = false ∧ Hid (EB wr S (.slice oa on oc) (ixOf (x0.take k))) ∧ Hid (∀ q, S q → W.heap.size ≤ q) ∧ Hid (∀ s ∈ x0.take k, s.size ≤ 200) ∧ KeptO (fun q => q = g) W wr) (fun iv _ => n0 - (intOf iv).toNat)
  case atStart => exact ⟨0, none, 0, 0, fun _ => False, Nat.zero_le _, rfl, HR1.out.1, HR1.out.2.1, HR1.out.2.2, EB.nil _ _, (fun q hq => hq.elim), (fun s hs => by simp at hs), KeptO.refl _ _⟩
  case round =>
    obtain ⟨k, oa, on, oc, S, hk, rfl, C0, C1, F1, HE, HS, HT, hnx⟩ := hrel
    obtain ⟨wo, hwo⟩ : ∃ wo, wo = wr := ⟨_, rfl⟩
    subst hwo
    have zw := hnx.size
    have hgo : g < wo.heap.size := by omega
    have HKW : Hid (KeptO (fun q => q = g) W wo) := hnx
    have HBR : Hid (Below w.heap.size w wo) := HBW.out.trans (hnx.below HBW.out.size (fun q hq => by omega))
    have HXR : Hid ((kRow kStr).is false wo S0 [.slice a0 n0 c0] x0) := Kd.below HX.out (HBW.out.trans (hnx.below HBW.out.size (fun q hq => by omega)))
    clear hnx HR1
    by_cases hlt : k < n0
    · obtain ⟨s, hx⟩ : ∃ s, x0[k]? = some s := ⟨_, List.getElem?_eq_getElem (by rw [← HN.out]; exact hlt)⟩
      have HXK : Hid (x0[k]? = some s) := hx
      obtain ⟨tb, toff, TB, TC, rfl, htb, _, hi, _, hc⟩ := row_at HXR.out hx
      obtain ⟨rfl, hsm⟩ := hi
      have K0 : wo.cell? ⟨tb, toff + k, none⟩ = some (.string s) := by
        have := (hc 0 _ rfl).1
        rw [show toff + k * kStr.wd + 0 = toff + k by show toff + k * 1 + 0 = _; omega] at this
        exact this
      have i0 : (0 : Int) ≤ (k : Int) := by omega
      have i1 : (k : Int) < (n0 : Int) := by omega
      have s20 : s.size ≤ 2 ^ 20 := by
        have h1 := sums_ge kStr.sz x0 k s hx
        have h2 : (kRow kStr).sz x0 = x0.length + sums kStr.sz x0 := rfl
        have h3 := HZ.out
        have h4 : kStr.sz s = s.size := rfl
        omega
      clear hc hx
      by_cases c2 : (200 : Int) < (s.size : Int)
      · have HRC : Hid (wo.cell? ⟨w.heap.size, 0, none⟩ = some (.int .i64 0) ∧ wo.cell? ⟨w.heap.size, 1, none⟩ = some (.slice none 0 0) ∧ wo.frozen? ⟨w.heap.size, 0, none⟩ = false ∧ wo.frozen? ⟨w.heap.size, 1, none⟩ = false) := by
          have hn1 : ¬ (w.heap.size = g) := by omega
          have hlw : w.heap.size < W.heap.size := by omega
          rw [HKW.out.cell hlw hn1, HKW.out.cell hlw hn1, HKW.out.frozen hlw hn1, HKW.out.frozen hlw hn1]
          exact HR0.out
        obtain ⟨r0, r1, r2, r3⟩ := HRC.out
        have hwr : w.heap.size < wo.heap.size := by omega
        have HNO : Hid (¬ (x0.length ≤ 40 ∧ (∀ s ∈ x0, s.size ≤ 200) ∧ (ixOf x0).length ≤ 200)) := fun h => by have := h.2.1 s (List.mem_of_getElem? HXK.out); omega
        have HB9 : Hid (∀ u v, Below w.heap.size wo ((wo.setCell ⟨w.heap.size, 0, none⟩ u).setCell ⟨w.heap.size, 1, none⟩ v)) := fun u v => ⟨rfl, rfl, rfl, by simp, fun q hq => by rw [heap_set_ne (by omega), heap_set_ne (by omega)]⟩
        go_wp2
        have q0 : (wo.setCell ⟨w.heap.size, 0, none⟩ (.int .i64 0)).cell? ⟨w.heap.size, 0, none⟩ = some (.int .i64 0) := set_same r0
        have q1 : (wo.setCell ⟨w.heap.size, 0, none⟩ (.int .i64 0)).cell? ⟨w.heap.size, 1, none⟩ = some (.slice none 0 0) := set_other r1 (by decide)
        refine bodyPost_ret (v := .tuple #[.agg #[.int .i64 0, .slice none 0 0], .bool false]) (by simp [results, Try.results12, go_sem, q0, q1]) rfl ?_
        exact RIndexOf.no HNO.out (HBR.out.trans (HB9.out _ _))
      · have c2' : s.size ≤ 200 := by omega
        go_wp2_with fail
        refine (l10In_k s _ s20).mono ?_
        rintro e w1 ⟨wa, wn, wc, rfl, hws, hb1⟩
        have HWS : Hid ((kRow kStr).is false w1 (fun q => wo.heap.size ≤ q) [.slice wa wn wc] (wordsB s)) := Kd.read _ hws
        have HWN : Hid (wn = (wordsB s).length) := row_len hws
        have wn100 : wn ≤ 100 := by rw [HWN.out]; exact words_few c2'
        have HB1 : Hid (Below wo.heap.size wo w1) := hb1
        have z1 := hb1.size
        have hio := ix_take HT.out (by rw [← HN.out]; omega)
        obtain ⟨es, hes⟩ : ∃ es, es = ixOf (x0.take k) := ⟨_, rfl⟩
        have HES : Hid (es = ixOf (x0.take k)) := hes
        rw [← hes] at hio HE
        have HIO : Hid (IxOk k es) := hio
        have HLE : Hid (es.length ≤ 4000) := by
          have h1 := ix_len (l := x0.take k) HT.out k (by rw [List.length_take, ← HN.out]; omega)
          rw [List.take_take, Nat.min_self, ← hes] at h1
          show _ ≤ _
          omega
        have D0 := cell_later hb1 C0
        have D1 := cell_later hb1 C1
        have E1 : w1.frozen? ⟨g, 1, none⟩ = false := (hb1.frozen hgo).trans F1
        have HE1 : Hid (EB w1 (fun q => S q ∧ q < wo.heap.size) (.slice oa on oc) es) := (HE.out.mono (fun q h1 h2 => ⟨h2, h1⟩)).below hb1
        clear hws hb1 hio hes HE C0 C1 F1 K0
        go_wp2_with fail
        go_loopw [30] (fun iv wr => ∃ (j : Nat) (va : Option Addr) (vn vc : Nat) (Sj : Nat → Prop), j ≤ wn ∧ iv = .int .i64 j ∧ wr.cell? ⟨g, 0, none⟩ = some (.int .i64 n0) ∧ wr.cell? ⟨g, 1, none⟩ = some (.slice va vn vc) ∧ wr.frozen? ⟨g, 1, none⟩ = false ∧ Hid (EB wr Sj (.slice va vn vc) (textIx k es ((wordsB s).take j))) ∧ Hid (∀ q, Sj q → W.heap.size ≤ q ∧ (q < wo.heap.size ∨ w1.heap.size ≤ q)) ∧ KeptO (fun q => q = g ∨ (W.heap.size ≤ q ∧ q < wo.heap.size)) w1 wr) (fun iv _ => wn - (intOf iv).toNat)
        case atStart => exact ⟨0, oa, on, oc, _, Nat.zero_le _, rfl, D0, D1, E1, HE1, (fun q hq => ⟨HS.out q hq.1, .inl hq.2⟩), KeptO.refl _ _⟩
        case round =>
          obtain ⟨j, va, vn, vc, Sj, hj, rfl, C0, C1, F1, HJE, HJS, hkj⟩ := hrel
          have HKJ : Hid (KeptO (fun q => q = g ∨ (W.heap.size ≤ q ∧ q < wo.heap.size)) w1 wr) := hkj
          have zj := hkj.size
          have hgr : g < wr.heap.size := by omega
          clear hkj D0 D1 E1
          by_cases hjn : j < wn
          · obtain ⟨x, hx⟩ : ∃ x, (wordsB s)[j]? = some x := ⟨_, List.getElem?_eq_getElem (by rw [← HWN.out]; exact hjn)⟩
            obtain ⟨xb, xoff, XB, XC, rfl, hxb, hxT, hi, _, hc⟩ := row_at HWS.out hx
            obtain ⟨rfl, hxm⟩ := hi
            have X0 : wr.cell? ⟨xb, xoff + j, none⟩ = some (.string x) := by
              have := (hc 0 _ rfl).1
              rw [show xoff + j * kStr.wd + 0 = xoff + j by show xoff + j * 1 + 0 = _; omega] at this
              rw [HKJ.out.cell hxb (by omega)]
              exact this
            have j0 : (0 : Int) ≤ (j : Int) := by omega
            have j1 : (j : Int) < (wn : Int) := by omega
            have HNX : Hid (cntW k (textIx k es ((wordsB s).take j)) x = textIx k es ((wordsB s).take (j + 1))) := (text_next hx).symm
            have HCALL : Hid (∀ W', Below wr.heap.size wr W' → Calls Try.prog 45 #[.slice va vn vc, .string x, .int .i64 k] W' (RCount (textIx k es ((wordsB s).take j)) x k Sj W')) := fun W' hW' => by
              have hwl : ((wordsB s).take j).length ≤ 100 := by rw [List.length_take]; omega
              obtain ⟨p1, p2, p3⟩ := count_pre HIO.out (by omega) hwl
              have hl := text_len k ((wordsB s).take j) es
              have hle := HLE.out
              exact l10Count_k _ va vn vc x k Sj W' (HJE.out.below hW') hxm (by omega) p1 p2 p3 ⟨by omega, by omega⟩
            clear hc hx
            go_wp2_with fail
            refine (HCALL.out wr (Below.refl _ _)).mono ?_
            rintro e w2 ⟨v, rfl, he, hkp⟩
            obtain ⟨va', vc', hv', _⟩ := he.form
            obtain ⟨vn', hvn'⟩ : ∃ vn', vn' = (cntW k (textIx k es ((wordsB s).take j)) x).length := ⟨_, rfl⟩
            rw [← hvn'] at hv'
            subst hv'
            rw [HNX.out] at he
            have hgS : ¬ Sj g := fun h => by have := (HJS.out g h).1; omega
            have D0 : w2.cell? ⟨g, 0, none⟩ = some (.int .i64 n0) := by rw [hkp.cell hgr hgS]; exact C0
            have D1 : w2.cell? ⟨g, 1, none⟩ = some (.slice va vn vc) := by rw [hkp.cell hgr hgS]; exact C1
            have E1 : w2.frozen? ⟨g, 1, none⟩ = false := by rw [hkp.frozen hgr hgS]; exact F1
            have HE2 : Hid (EB w2 (fun q => Sj q ∨ wr.heap.size ≤ q) (.slice va' vn' vc') (textIx k es ((wordsB s).take (j + 1)))) := he
            have HK2 : Hid (KeptO (fun q => q = g ∨ (W.heap.size ≤ q ∧ q < wo.heap.size)) w1 w2) := HKJ.out.front hkp (fun q hq h => by have := HJS.out q h; exact .inr ⟨this.1, by omega⟩)
            have ZJ : Hid (w1.heap.size ≤ wr.heap.size) := zj
            clear he hkp hvn' hgS C0 C1 F1 X0
            go_wp2
            go_roundw
            case rel =>
              have hset : ∀ u : Value, KeptO (fun q => q = g) w2 (w2.setCell ⟨g, 1, none⟩ u) := fun u => ⟨rfl, rfl, rfl, by simp, fun q _ hq => heap_set_ne hq⟩
              refine ⟨j + 1, va', vn', vc', _, by omega, by go_num, set_other D0 (by decide), set_same D1, by rw [World.frozen?_setCell]; exact E1, HE2.out.kept (hset _) (fun q hq e => ?_), fun q hq => ?_, HK2.out.front (hset _) (fun q _ e => .inl e)⟩
              · rcases hq with hq | hq
                · have := (HJS.out q hq).1; omega
                · omega
              · rcases hq with hq | hq
                · exact HJS.out q hq
                · have := ZJ.out
                  exact ⟨by omega, .inr (by omega)⟩
            case measure => simp [intOf]; omega
          · have j1 : ¬ (j : Int) < (wn : Int) := by omega
            have hjw : j = wn := by omega
            subst hjw
            have HEN : Hid (EB wr Sj (.slice va vn vc) (ixOf (x0.take (k + 1)))) := by
              have h := HJE.out
              rw [HWN.out, List.take_length, HES.out] at h
              rw [ixOf_next HXK.out]
              exact h
            have HTN : Hid (∀ z ∈ x0.take (k + 1), z.size ≤ 200) := fun z hz => by
              rw [List.take_add_one, HXK.out] at hz
              rcases List.mem_append.1 hz with h | h
              · exact HT.out z h
              · have : z = s := by simpa using h
                rw [this]
                exact c2'
            have HKN2 : Hid (KeptO (fun q => q = g) W wr) := (HKW.out.front (KeptO.of (S := fun _ => False) HB1.out) (fun q _ h => h.elim)).front HKJ.out (fun q hq e => by
              rcases e with e | e
              · exact e
              · omega)
            have HSN : Hid (∀ q, Sj q → W.heap.size ≤ q) := fun q hq => (HJS.out q hq).1
            clear HJE HKJ HJS
            go_wp2
            go_roundw
            case rel => exact ⟨k + 1, va, vn, vc, Sj, by omega, by go_num, C0, C1, F1, HEN, HSN, HTN, HKN2.out⟩
            case measure => simp [intOf]; omega
    · have i1 : ¬ (k : Int) < (n0 : Int) := by omega
      have hkn : k = n0 := by omega
      subst hkn
      have HT0 : Hid (∀ s ∈ x0, s.size ≤ 200) := by have h := HT.out; rw [HN.out, List.take_length] at h; exact h
      have hio : IxOk k (ixOf x0) := by have h := ix_take HT.out (by rw [← HN.out]; omega); rw [HN.out, List.take_length, ← HN.out] at h; exact h
      have HE0 : Hid (EB wo S (.slice oa on oc) (ixOf x0)) := by have h := HE.out; rw [HN.out, List.take_length] at h; exact h
      have hle : (ixOf x0).length ≤ 4000 := by
        have h2 := ix_len HT0.out x0.length (Nat.le_refl _)
        rw [List.take_length, ← HN.out] at h2
        omega
      have hsm := ix_small hio n40 (by omega)
      have HKS : Hid (kWords.is false wo S [.int .i64 k, .slice oa on oc] ((k : Int), ixOf x0)) := Kd.read _ (kWords_shut (by unfold IntOk; omega) (HE0.out.row hsm) (fun q hq => hq))
      have HSZ : Hid (kWords.sz ((k : Int), ixOf x0) ≤ 2 ^ 20) := by
        have h1 := ix_sz hio n40 hle
        have h2 : kWords.sz ((k : Int), ixOf x0) = 0 + (kRow kEntry).sz (ixOf x0) := rfl
        show _ ≤ _
        omega
      have HGW : Hid (fGoodWords ((k : Int), ixOf x0) = decide ((ixOf x0).length ≤ 200)) := by
        have h := ix_good (l := x0) (by rw [← HN.out]; exact n40) HT0.out
        rw [← HN.out] at h
        exact h
      have HRC : Hid (∀ w1, Below wo.heap.size wo w1 → w1.cell? ⟨w.heap.size, 0, none⟩ = some (.int .i64 0) ∧ w1.cell? ⟨w.heap.size, 1, none⟩ = some (.slice none 0 0) ∧ w1.frozen? ⟨w.heap.size, 0, none⟩ = false ∧ w1.frozen? ⟨w.heap.size, 1, none⟩ = false) := fun w1 hb => by
        have hn1 : ¬ (w.heap.size = g) := by omega
        have hlw : w.heap.size < W.heap.size := by omega
        rw [hb.cell (by show w.heap.size < wo.heap.size; omega), hb.cell (by show w.heap.size < wo.heap.size; omega), hb.frozen (by show w.heap.size < wo.heap.size; omega), hb.frozen (by show w.heap.size < wo.heap.size; omega), HKW.out.cell hlw hn1, HKW.out.cell hlw hn1, HKW.out.frozen hlw hn1, HKW.out.frozen hlw hn1]
        exact HR0.out
      clear hio hle hsm HE
      go_wp2_with fail
      refine (specGoodWords_k ((k : Int), ixOf x0) [.int .i64 k, .slice oa on oc] S _ HKS.out HSZ.out).mono ?_
      rintro e w1 ⟨rfl, hb⟩
      rw [HGW.out]
      have HB9 : Hid (∀ u v, Below w.heap.size w1 ((w1.setCell ⟨w.heap.size, 0, none⟩ u).setCell ⟨w.heap.size, 1, none⟩ v)) := fun u v => ⟨rfl, rfl, rfl, by simp, fun q hq => by rw [heap_set_ne (by omega), heap_set_ne (by omega)]⟩
      obtain ⟨r0, r1, r2, r3⟩ := HRC.out w1 hb
      have hwr : w.heap.size < w1.heap.size := by have := hb.size; omega
      have HBN : Hid (Below w.heap.size w w1) := HBR.out.trans (hb.mono HBR.out.size)
      have HE1 : Hid (EB w1 S (.slice oa on oc) (ixOf x0)) := HE0.out.below hb
      have D0 := cell_later hb C0
      have D1 := cell_later hb C1
      clear hb C0 C1 F1
      by_cases hl : (ixOf x0).length ≤ 200
      · rw [decide_eq_true hl]
        have HL2 : Hid ((ixOf x0).length ≤ 200) := hl
        clear hl
        go_wp2
        have q0 : (w1.setCell ⟨w.heap.size, 0, none⟩ (.int .i64 k)).cell? ⟨w.heap.size, 0, none⟩ = some (.int .i64 k) := set_same r0
        have q1 : (w1.setCell ⟨w.heap.size, 0, none⟩ (.int .i64 k)).cell? ⟨w.heap.size, 1, none⟩ = some (.slice none 0 0) := set_other r1 (by decide)
        refine bodyPost_ret (v := .tuple #[.agg #[.int .i64 k, .slice oa on oc], .bool true]) (by simp [results, Try.results12, go_sem, q0, q1]) rfl ?_
        rw [HN.out]
        refine RIndexOf.yes (S := S) (by rw [← HN.out]; omega) HT0.out HL2.out (HE1.out.kept (S' := fun q => q = w.heap.size) ⟨rfl, rfl, rfl, by simp, fun q _ hq => by rw [heap_set_ne hq, heap_set_ne hq]⟩ (fun q hq e => ?_)) (fun q hq => ?_) (HBN.out.trans (HB9.out _ _))
        · have := HS.out q hq; omega
        · have := HS.out q hq; omega
      · rw [decide_eq_false hl]
        have HNO : Hid (¬ (x0.length ≤ 40 ∧ (∀ s ∈ x0, s.size ≤ 200) ∧ (ixOf x0).length ≤ 200)) := fun h => hl h.2.2
        clear hl
        go_wp2
        have q0 : (w1.setCell ⟨w.heap.size, 0, none⟩ (.int .i64 0)).cell? ⟨w.heap.size, 0, none⟩ = some (.int .i64 0) := set_same r0
        have q1 : (w1.setCell ⟨w.heap.size, 0, none⟩ (.int .i64 0)).cell? ⟨w.heap.size, 1, none⟩ = some (.slice none 0 0) := set_other r1 (by decide)
        refine bodyPost_ret (v := .tuple #[.agg #[.int .i64 0, .slice none 0 0], .bool false]) (by simp [results, Try.results12, go_sem, q0, q1]) rfl ?_
        exact RIndexOf.no HNO.out (HBN.out.trans (HB9.out _ _))
end Go.Proofs.Ytdaomklgcdfllaa
