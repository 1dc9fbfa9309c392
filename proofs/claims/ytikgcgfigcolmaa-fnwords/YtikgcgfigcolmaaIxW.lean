/- Words off a map of lists: the program's wordsOf. No condition but that they fit in memory. -/
import Derived.Test.YtikgcgfigcolmaaMpA
import Derived.Test.YtikgcgfigcolmaaIxB
import Derived.Test.YtikgcgfigcolmaaItr
import Derived.Test.YtikgcgfigcolmaaApS
namespace Go.Proofs.Ytikgcgfigcolmaa
open Go.RowKit Go.Maps
set_option linter.unusedVariables false

theorem keys_own {L : List (ByteArray × Value)} (h : RiseK L) {w : World} {B : Nat} {T : TypeId} {v : Value} {ss : List (List UInt8)} (hp : ss.Perm (strKeys (DataW.map (L.map encK)))) (ho : w.ownsRow B T 1 v ss.length ((ss.mergeSort (fun x y => decide (x ≤ y))).map encStr)) :
    OwnL (fun y => [.string y]) T 1 w B v (L.map (·.1)) := by
  have hl : ss.length = (L.map (·.1)).length := by rw [hp.length_eq, keys_enc]; simp
  rw [keys_sorted h hp] at ho
  unfold OwnL
  rw [← hl]
  have e : (L.map (fun p => p.1.data.toList)).map encStr = (L.map (·.1)).flatMap (fun y => [Value.string y]) := by
    clear ho hl hp h
    induction L with
    | nil => rfl
    | cons p r ih =>
      simp only [List.map_cons, List.flatMap_cons, ih]
      rfl
  rw [← e]
  exact ho
/-- The keys of a map of lists, sorted. -/
theorem sortedL_k (b : Nat) (L : List (ByteArray × Value)) (w : World) (h : MapAt w b L) (hl : L.length ≤ 2 ^ 30) (hk : ∀ p ∈ L, p.1.size ≤ maxLen) :
    Calls Try.prog 39 #[.func (.func 108) #[] #[.pointer (some ⟨w.heap.size, 0, none⟩)]] (w.alloc (.cells #[.map (some b)] 75)) fun e w' => ∃ a n c, e = .returned (.slice a n c) ∧ (kRow kStr).is false w' (fun k => w.heap.size + 1 ≤ k) [.slice a n c] (L.map (·.1)) ∧ Below (w.heap.size + 1) (w.alloc (.cells #[.map (some b)] 75)) w' := by
  refine (callsIn_wide.1 (Try.slices_Sorted_keys_39_86 b _ _ rawR w h.1 (by rw [Maps.size_eq, List.length_map]; exact h.len) (by rw [Maps.size_eq, List.length_map]; omega))).mono ?_
  rintro e w' ⟨v, ss, rfl, hS, hrow, _, hb⟩
  have ho := keys_own h.2 hS hrow
  obtain ⟨a, c, rfl, _⟩ := ho.form
  simp only [World.size_alloc] at ho hb
  exact ⟨a, _, c, rfl, Kd.read _ (own_kRow (K := kStr) (fun _ => rfl) ho (by rw [List.length_map]; exact h.len) (fun x hx W S => by
    obtain ⟨p, hp, rfl⟩ := List.mem_map.1 hx
    exact ⟨rfl, hk p hp⟩)), hb⟩
theorem sortedC_k (b : Nat) (L : List (ByteArray × Value)) (w : World) (h : MapAt w b L) (hl : L.length ≤ 2 ^ 30) (hk : ∀ p ∈ L, p.1.size ≤ maxLen) :
    Calls Try.prog 39 #[.func (.func 85) #[] #[.pointer (some ⟨w.heap.size, 0, none⟩)]] (w.alloc (.cells #[.map (some b)] 76)) fun e w' => ∃ a n c, e = .returned (.slice a n c) ∧ (kRow kStr).is false w' (fun k => w.heap.size + 1 ≤ k) [.slice a n c] (L.map (·.1)) ∧ Below (w.heap.size + 1) (w.alloc (.cells #[.map (some b)] 76)) w' := by
  refine (callsIn_wide.1 (Try.slices_Sorted_keys_39_40 b _ _ rawR w h.1 (by rw [Maps.size_eq, List.length_map]; exact h.len) (by rw [Maps.size_eq, List.length_map]; omega))).mono ?_
  rintro e w' ⟨v, ss, rfl, hS, hrow, _, hb⟩
  have ho := keys_own h.2 hS hrow
  obtain ⟨a, c, rfl, _⟩ := ho.form
  simp only [World.size_alloc] at ho hb
  exact ⟨a, _, c, rfl, Kd.read _ (own_kRow (K := kStr) (fun _ => rfl) ho (by rw [List.length_map]; exact h.len) (fun x hx W S => by
    obtain ⟨p, hp, rfl⟩ := List.mem_map.1 hx
    exact ⟨rfl, hk p hp⟩)), hb⟩

theorem zeroL (w : World) : (zeroValue 39).run Try.prog w = .ok (.slice none 0 0) w := by kernel_rfl
theorem zeroI (w : World) : (zeroValue 3).run Try.prog w = .ok (.int .i64 0) w := by kernel_rfl
theorem infoEnA : (Try.prog.info? 85).map (fun i => (i.zero, i.size, i.bytes)) = some (some (.agg #[.string ⟨#[]⟩, .slice none 0 0]), 2, 40) := by kernel_rfl
/-- append(out, e) of entries. -/
theorem app_en {w : World} {ops : Array Oper} {rest : List Oper} {o : Oper} {a : Act} {Q : Exit → Act → World → Prop} (hgd : o.guard = none) (s x : Operand)
    (ho : o.op = .call { callee := .builtin .append, args := #[s, x], argTypes := #[25, 25] })
    (B : Nat) (v : Value) (l : List (ByteArray × Value)) (hs : a.eval s = v) (hown : OwnL enC 85 2 w B v l) (b : Nat) (y : ByteArray × Value) (hx : a.eval x = .slice (some ⟨b, 0, none⟩) 1 1) (h1 : y.2.oneCell' = true) (hc : w.cell? ⟨b, 0, none⟩ = some (.string y.1)) (hc1 : w.cell? ⟨b, 1, none⟩ = some y.2)
    (hL : l.length < 2 ^ 30) (hbase : B ≤ w.heap.size)
    (h : ∀ v' w', OwnL enC 85 2 w' B v' (l ++ [y]) → Below B w w' → Grew w w' v v' → wpList Try.prog ops Q rest (a.put o.dst v') w') : wpList Try.prog ops Q (o :: rest) a w := by
  obtain ⟨i0, hi, hz0, hz1, hz2⟩ := info_parts infoEnA
  exact wpList_app1 enC hgd s x 25 ho B 85 i0 _ 2 40 Try.underlying25 hi hz0 hz1 hz2 rfl (by decide) (by decide) v l hs hown b y hx rfl (fun u hu => by
    simp [enC] at hu
    rcases hu with rfl | rfl
    · rfl
    · exact h1) (fun j u hj => by
    match j, hj with
    | 0, hj => obtain rfl : Value.string y.1 = u := by simpa [enC] using hj
               exact hc
    | 1, hj => obtain rfl : y.2 = u := by simpa [enC] using hj
               exact hc1
    | j + 2, hj => simp [enC] at hj) hL hbase h
set_option maxRecDepth 100000 in
set_option maxHeartbeats 4000000 in
theorem wordsOf_k (tx : Int) (b : Nat) (L : List (ByteArray × Value)) (es : List DEntry) (S : Nat → Prop) (w : World) (hm : MapAt w b L) (hp : PL w S L es) (hl : L.length ≤ 2 ^ 20) (hk : ∀ p ∈ L, p.1.size ≤ maxLen) (ht : IntOk tx) :
    Calls Try.prog 41 #[.int .i64 tx, .map (some b)] w fun e w' => (es.length ≤ 200 ∧ ∃ a n c, e = .returned (.tuple #[.agg #[.int .i64 tx, .slice a n c], .bool true]) ∧ EB w' (fun k => S k ∨ w.heap.size ≤ k) (.slice a n c) es ∧ Below w.heap.size w w') ∨ (200 < es.length ∧ e = .returned (.tuple #[.agg #[.int .i64 0, .slice none 0 0], .bool false]) ∧ Below w.heap.size w w') := by
  have eL : L.length = es.length := by have := congrArg List.length hp.keys; simpa using this
  obtain ⟨n, hn⟩ : ∃ n, n = L.length := ⟨_, rfl⟩
  have HN : Hid (n = L.length) := hn
  have HEL : Hid (n = es.length) := hn.trans eL
  have HM : Hid (MapAt w b L) := hm
  have HP : Hid (PL w S L es) := hp
  have HK : Hid (∀ p ∈ L, p.1.size ≤ maxLen) := hk
  have n20 : n ≤ 2 ^ 20 := by omega
  have hbw : b < w.heap.size := hm.lt
  have HLEN : ∀ o : Obj, (Builtin.len_ #[75] 3 #[.map (some b)]).run Try.prog (w.alloc o) = .ok (.int .i64 n) (w.alloc o) := fun o => by rw [hn]; exact (hm.alloc o).size Try.underlying75 _
  clear hm hp hk hl hn eL
  by_cases c1 : (200 : Int) < (n : Int)
  · go_enter Try.func41, Try.ntmps41
    go_wp2
    refine bodyPost_ret (v := .tuple #[.agg #[.int .i64 0, .slice none 0 0], .bool false]) (by simp [results, Try.results41, go_sem]) rfl ?_
    exact .inr ⟨by rw [← HEL.out]; omega, rfl, by go_grown⟩
  obtain ⟨W, hW⟩ : ∃ W, W = (w.alloc (.cells #[.int .i64 0, .slice none 0 0] 27)).alloc (.cells #[.int .i64 tx, .slice none 0 0] 27) := ⟨_, rfl⟩
  have ZW : Hid (W.heap.size = w.heap.size + 2) := by show _ = _; rw [hW]; simp
  have HBW : Hid (Below w.heap.size w W) := by show Below _ _ _; rw [hW]; exact ((Below.refl _ _).alloc (Nat.le_refl _) _).alloc (by simp) _
  have HR0 : Hid (W.cell? ⟨w.heap.size, 0, none⟩ = some (.int .i64 0) ∧ W.cell? ⟨w.heap.size, 1, none⟩ = some (.slice none 0 0) ∧ W.frozen? ⟨w.heap.size, 0, none⟩ = false ∧ W.frozen? ⟨w.heap.size, 1, none⟩ = false) := by rw [hW]; refine ⟨?_, ?_, ?_, ?_⟩ <;> simp [go_sem]
  have HR1 : Hid (W.cell? ⟨w.heap.size + 1, 0, none⟩ = some (.int .i64 tx) ∧ W.cell? ⟨w.heap.size + 1, 1, none⟩ = some (.slice none 0 0) ∧ W.frozen? ⟨w.heap.size + 1, 1, none⟩ = false) := by rw [hW]; refine ⟨?_, ?_, ?_⟩ <;> simp [go_sem]
  go_enter Try.func41, Try.ntmps41
  go_wp2_with fail
  rw [← hW]
  clear hW HLEN
  refine (callsIn_wide.1 (Try.maps_Keys_86 _ _)).mono ?_
  rintro e w1 ⟨rfl, rfl⟩
  go_wp2_with fail
  refine (sortedL_k b L W (HM.out.below HBW.out) (by rw [← HN.out]; omega) HK.out).mono ?_
  rintro e w1 ⟨ka, kn, kc, rfl, hkr, hb1⟩
  have HKR : Hid ((kRow kStr).is false w1 (fun k => W.heap.size + 1 ≤ k) [.slice ka kn kc] (L.map (·.1))) := hkr
  have hkn : kn = n := by have := row_len hkr; rw [List.length_map, ← HN.out] at this; exact this
  subst hkn
  have z1 : W.heap.size + 1 ≤ w1.heap.size := by have := hb1.size; simp at this; omega
  have HB1 : Hid (Below W.heap.size W w1) := ((Below.refl _ W).alloc (Nat.le_refl _) _).trans (hb1.mono (by omega))
  clear hb1 hkr
  go_wp2_with fail
  obtain ⟨g, hg⟩ : ∃ g, g = w.heap.size + 1 := ⟨_, rfl⟩
  have HG : Hid (g = w.heap.size + 1) := hg
  have hgW : g < W.heap.size := by rw [ZW.out]; omega
  have hg1 : g < w1.heap.size := by omega
  rw [← hg] at HR1 ⊢
  clear hg
  have c0 : w1.cell? ⟨g, 0, none⟩ = some (.int .i64 tx) := cell_later HB1.out HR1.out.1
  have c01 : w1.cell? ⟨g, 1, none⟩ = some (.slice none 0 0) := cell_later HB1.out HR1.out.2.1
  have f01 : w1.frozen? ⟨g, 1, none⟩ = false := (HB1.out.frozen hgW).trans HR1.out.2.2
  have HMW : Hid (MapAt w1 b L) := (HM.out.below HBW.out).below HB1.out
  have hb1 : b < w1.heap.size := by have := HBW.out.size; omega
  have hbg : b ≠ g := by rw [HG.out]; omega
  go_loopw [19] (fun iv wr => ∃ (k : Nat) (ov : Value), k ≤ kn ∧ iv = .int .i64 k ∧ wr.cell? ⟨g, 0, none⟩ = some (.int .i64 tx) ∧ wr.cell? ⟨g, 1, none⟩ = some ov ∧ wr.frozen? ⟨g, 1, none⟩ = false ∧ Hid (OwnL enC 85 2 wr w1.heap.size ov (L.take k)) ∧ BelowBut w1.heap.size g w1 wr) (fun iv _ => kn - (intOf iv).toNat)
  case atStart => exact ⟨0, _, Nat.zero_le _, rfl, c0, c01, f01, OwnL.nil _ _ _ _ _, BelowBut.refl _ _ _⟩
  case round =>
    obtain ⟨k, ov, hk, rfl, C0, C1, F1, HO, hnx⟩ := hrel
    clear c0 c01 f01
    have zw := hnx.size
    obtain ⟨oa, oc, hov, _⟩ := HO.out.form
    subst hov
    have HLK : Hid ((L.take k).length = k) := by show _ = _; rw [List.length_take, ← HN.out]; omega
    rw [HLK.out] at HO C1
    by_cases hlt : k < kn
    · obtain ⟨⟨x, u⟩, hx⟩ : ∃ p, L[k]? = some p := ⟨_, List.getElem?_eq_getElem (by rw [← HN.out]; exact hlt)⟩
      have hx1 : (L.map (·.1))[k]? = some x := by rw [List.getElem?_map, hx]; rfl
      obtain ⟨ua, uc, hu, _⟩ := (HP.out.own x).form
      rw [getD_at HP.out.riseL hx] at hu
      obtain ⟨um, hum⟩ : ∃ um, um = (getD x [] es).length := ⟨_, rfl⟩
      rw [← hum] at hu
      subst hu
      clear hum
      obtain ⟨kb, koff, KB, KC, rfl, hkb, hkS, hi, _, hc⟩ := row_at HKR.out hx1
      obtain ⟨rfl, hxm⟩ := hi
      have K0 : wr.cell? ⟨kb, koff + k, none⟩ = some (.string x) := by
        rw [hnx.cell hkb (by omega)]
        have := (hc 0 _ rfl).1
        rw [show koff + k * kStr.wd + 0 = koff + k by show koff + k * 1 + 0 = _; omega] at this
        exact this
      have i0 : (0 : Int) ≤ (k : Int) := by omega
      have i1 : (k : Int) < (kn : Int) := by omega
      have HMR : Hid (MapAt wr b L) := HMW.out.block (hnx.block b hb1 hbg)
      have HLOOK : ∀ W', Hid (Below wr.heap.size wr W' → (Instr.lookup 75 (.map (some b)) (.string x) false).run Try.prog W' = .ok (.slice ua um uc) W') := fun W' hW' => by
        have h1 := (HMR.out.below hW').look Try.underlying75 (zeroL W') hxm
        rw [h1]
        congr 1
        exact getD_at HMR.out.2 hx
      have L0 := (HLOOK wr).out (Below.refl _ _)
      have L1 := (HLOOK wr.drew).out (Below.refl _ _).drew
      clear hc hx1
      have zr : w1.heap.size ≤ wr.heap.size := zw
      have HTK : Hid (L.take (k + 1) = L.take k ++ [(x, .slice ua um uc)]) := by show _ = _; rw [List.take_add_one, hx]; rfl
      have HBR : Hid (BelowBut w1.heap.size g w1 wr) := hnx
      clear hnx hx
      go_wp2_with (at_builtin; go_loud (refine app_en rfl _ _ rfl w1.heap.size (.slice oa k oc) (L.take k) rfl (OwnL.below HO.out (below_a1' _ _)) _ (x, .slice ua um uc) rfl rfl (cell_b1 _ _ _ _).1 (cell_b1 _ _ _ _).2 (by rw [HLK.out]; omega) (by simp; omega) ?_))
      intro v' w2 ho2 hb2 _
      obtain ⟨va, vc, hv', _⟩ := ho2.form
      subst hv'
      have hgr : g < wr.heap.size := by omega
      have D0 : w2.cell? ⟨g, 0, none⟩ = some (.int .i64 tx) := by rw [hb2.cell hg1, (below_a1' wr _).cell hgr]; exact C0
      have D1 : w2.cell? ⟨g, 1, none⟩ = some (.slice oa k oc) := by rw [hb2.cell hg1, (below_a1' wr _).cell hgr]; exact C1
      have E1 : w2.frozen? ⟨g, 1, none⟩ = false := by rw [hb2.frozen hg1, (below_a1' wr _).frozen hgr]; exact F1
      have HB2 : Hid (BelowBut w1.heap.size g w1 w2) := BelowBut.trans HBR.out (BelowBut.of (((below_a1' wr _).mono zr).trans hb2))
      have HO2 : Hid (OwnL enC 85 2 w2 w1.heap.size (.slice va (L.take k ++ [(x, Value.slice ua um uc)]).length vc) (L.take (k + 1))) := by show OwnL _ _ _ _ _ _ _; rw [HTK.out]; exact ho2
      generalize (L.take k ++ [(x, Value.slice ua um uc)]).length = vn at *
      clear ho2 hb2 C0 C1 F1 L0 L1
      go_wp2
      go_roundw
      case rel =>
        refine ⟨k + 1, .slice va vn vc, by omega, by go_num, set_other D0 (by decide), set_same D1, by rw [World.frozen?_setCell]; exact E1, HO2.out.stay fun q hq => ?_, BelowBut.trans HB2.out (BelowBut.setCell _ _ _)⟩
        have := World.ownsRow.lt HO2.out q hq
        exact heap_set_ne (by omega)
      case measure => simp [intOf]; omega
    · have i1 : ¬ (k : Int) < (kn : Int) := by omega
      have HE : Hid (L.take k = L) := by show _ = _; rw [show k = L.length by rw [← HN.out]; omega, List.take_length]
      have hkk : k = kn := by omega
      subst hkk
      have zWw := HBW.out.size
      have ZWW := ZW.out
      have HRC : Hid (wr.cell? ⟨w.heap.size, 0, none⟩ = some (.int .i64 0) ∧ wr.cell? ⟨w.heap.size, 1, none⟩ = some (.slice none 0 0) ∧ wr.frozen? ⟨w.heap.size, 0, none⟩ = false ∧ wr.frozen? ⟨w.heap.size, 1, none⟩ = false) := by
        have hne : w.heap.size ≠ g := by rw [HG.out]; omega
        have hlt0 : w.heap.size < W.heap.size := by omega
        rw [hnx.cell (by omega) hne, hnx.cell (by omega) hne, hnx.frozen (by omega) hne, hnx.frozen (by omega) hne, HB1.out.cell hlt0, HB1.out.cell hlt0, HB1.out.frozen hlt0, HB1.out.frozen hlt0]
        exact HR0.out
      obtain ⟨r0, r1, r2, r3⟩ := HRC.out
      have hwr : w.heap.size < wr.heap.size := by omega
      have HBB : Hid (Below w.heap.size w wr) := HBW.out.trans ((HB1.out.mono zWw).trans (hnx.below (by omega) (by rw [HG.out]; omega)))
      have HOF : Hid (OwnL enC 85 2 wr w1.heap.size (.slice oa k oc) L) := by have h := HO.out; rw [HE.out] at h; exact h
      clear HO
      go_wp2
      have HB9 : ∀ u v, Below w.heap.size wr ((wr.setCell ⟨w.heap.size, 0, none⟩ u).setCell ⟨w.heap.size, 1, none⟩ v) := fun u v => ⟨rfl, rfl, rfl, by simp, fun q hq => by rw [heap_set_ne (by omega), heap_set_ne (by omega)]⟩
      have q0 : (wr.setCell ⟨w.heap.size, 0, none⟩ (.int .i64 tx)).cell? ⟨w.heap.size, 0, none⟩ = some (.int .i64 tx) := set_same r0
      have q1 : (wr.setCell ⟨w.heap.size, 0, none⟩ (.int .i64 tx)).cell? ⟨w.heap.size, 1, none⟩ = some (.slice none 0 0) := set_other r1 (by decide)
      refine bodyPost_ret (v := .tuple #[.agg #[.int .i64 tx, .slice oa k oc], .bool true]) (by simp [results, Try.results41, go_sem, q0, q1]) rfl ?_
      refine .inl ⟨by rw [← HEL.out]; omega, oa, k, oc, rfl, ⟨L, (HOF.out.stay fun q hq => ?_).mono (Nat.zero_le _), ((HP.out.below HBB.out).stay fun y q hq => ?_).mono (fun q _ hq => .inl hq), fun q hq => .inr ?_, fun y q hq hq' => ?_⟩, HBB.out.trans (HB9 _ _)⟩
      · have := World.ownsRow.lt HOF.out q hq
        rw [heap_set_ne (by omega), heap_set_ne (by omega)]
      · have := (HP.out.own y).blt hq
        rw [heap_set_ne (by omega), heap_set_ne (by omega)]
      · have := World.ownsRow.lt HOF.out q hq
        omega
      · have := World.ownsRow.lt HOF.out q hq'
        have := (HP.out.own y).blt hq
        omega
end Go.Proofs.Ytikgcgfigcolmaa
