/- What the law of places draws: a text, its endings (two of them perhaps turned about), and a text that is looked for. No condition but that it fits in memory. -/
import Derived.Test.YtkboblfjchkedaaSuE
namespace Go.Proofs.Ytkboblfjchkedaa
open Go.RowKit
set_option linter.unusedVariables false

/-- AT A STEP OF A STATEMENT THAT DRAWS ITS ORDER: a row of numbers put behind an own one. -/
theorem step_appI {w : World} {ops : Array Oper} {o : Oper} {a : Act} {K : Act → World → Prop} {Q : Exit → Act → World → Prop} {E : Prop} (hgd : o.guard = none) (s x : Operand)
    (ho : o.op = .call { callee := .builtin .append, args := #[s, x], argTypes := #[24, 24] })
    (B : Nat) (v : Value) (l : List Int) (hs : a.eval s = v) (hown : OwnL inC 3 1 w B v l) (ad : Addr) (n c : Nat) (S : Nat → Prop) (l' : List Int) (hx : a.eval x = .slice (some ad) n c) (hr : (kRow kInt).is false w S [.slice (some ad) n c] l')
    (hL : l.length + l'.length ≤ 2 ^ 30) (hbase : B ≤ w.heap.size)
    (h : ∀ v' w', OwnL inC 3 1 w' B v' (l ++ l') → Below B w w' → K (a.put o.dst v') w') : if Region.wanted o (yielded ops a.tmps) = true then Oper.wp Try.prog o a w K Q else E := by
  have hn := row_len hr
  obtain ⟨i0, hi, hz0, hz1, hz2⟩ := info_parts infoIntA
  have hw : Region.wanted o (yielded ops a.tmps) = true := by simp [Region.wanted, hgd]
  rw [if_pos hw]
  obtain ⟨v', w', hr', h4, h5, _, _⟩ := run_append_own_at (P := Try.prog) w B 24 o.type 3 i0 _ 1 8 Try.underlying24 hi hz0 hz1 hz2 rfl (by decide) v l.length (l.flatMap inC) hown ad n c (l'.flatMap inC) (by rw [flat_len (n := 1) (fun _ => rfl), hn]) (row_cells (K := kInt) (fun _ => rfl) (by decide) inC_is hr) (fun u hu => by obtain ⟨y, _, hy⟩ := List.mem_flatMap.1 hu; exact inC_one y u hy) (by unfold maxLen; omega) (by omega) hbase
  unfold Oper.wp execOp
  simp only [ho, resolve, invoke, builtin, Sem.run_bind, Sem.run_pure, Result.andThen_ok, List.map_toArray, List.map_cons, List.map_nil, hs, hx, hr']
  refine h v' w' ?_ ⟨h5.os, h5.tape, h5.output, h5.size, fun k hk => h5.block k (by omega) (fun e => by have := (World.ownsRow.lt hown k e.symm).1; omega)⟩
  unfold OwnL
  rw [List.length_append, List.flatMap_append, ← hn]
  exact h4
/-- Two numbers in a block that is new. -/
theorem own_two {w : World} {y1 y0 : Int} : OwnL inC 3 1 (w.alloc (.cells #[.int .i64 y1, .int .i64 y0] 3)) w.heap.size (.slice (some ⟨w.heap.size, 0, none⟩) 2 2) [y1, y0] :=
  ⟨rfl, .inr ⟨w.heap.size, 2, #[.int .i64 y1, .int .i64 y0], rfl, Nat.le_refl _, by show (w.heap.push _)[w.heap.size]? = _; simp, Nat.le_refl _, by unfold maxLen; omega, rfl, rfl⟩⟩
/-- A text and some list. -/
def RSufs (w : World) (g : Nat) (S : Nat → Prop) (m : Int) (e : Ending) (w' : World) : Prop := ∃ (s : ByteArray) (a : Option Addr) (n c : Nat) (T : Nat → Prop) (l : List Int), e = .returned (.tuple #[.string s, .slice a n c]) ∧ s.size ≤ 400 ∧ (kRow kInt).is true w' T [.slice a n c] l ∧ (∀ k, T k → w.heap.size ≤ k) ∧ l.length ≤ 400 ∧ CurAt w' g S m ∧ KeptO (fun k => k = g) w w'
set_option maxRecDepth 100000 in
set_option maxHeartbeats 4000000 in
theorem suffixes_k (w : World) (g : Nat) (S : Nat → Prop) (m : Int) (h : CurAt w g S m) (hm : m ≤ 2 ^ 39) (hg : g < w.heap.size) (hS : ∀ k, S k → k < w.heap.size) :
    Calls Try.prog 37 #[.pointer (some ⟨g, 0, none⟩)] w (RSufs w g S (m + 140)) := by
  have H : Hid (CurAt w g S m) := h
  have HSL : Hid (∀ k, S k → k < w.heap.size) := hS
  clear h hS
  go_enter Try.func37, Try.ntmps37
  go_wp2_with fail
  refine (suffixText_k w g S m H.out (by omega) hg).mono ?_
  rintro e w1 ⟨s, rfl, hs, ha, hc, hk⟩
  have HC1 : Hid (CurAt w1 g S (m + 130)) := hc
  have HK1 : Hid (KeptO (fun k => k = g) w w1) := hk
  have z1 : w.heap.size ≤ w1.heap.size := hk.size
  clear hc hk ha
  go_wp2_with fail
  refine (specSuffixesOf_k s w1 (by omega)).mono ?_
  rintro e w2 ⟨a, n, c, T, rfl, hr, hT, _, hb⟩
  have HC2 : Hid (CurAt w2 g S (m + 130)) := HC1.out.below hb
  have HK2 : Hid (KeptO (fun k => k = g) w w2) := HK1.out.trans (KeptO.of hb)
  have z2 : w1.heap.size ≤ w2.heap.size := hb.size
  have HT : Hid (∀ k, T k → w1.heap.size ≤ k) := hT
  have hlen : (fSuffixesOf s).1.length ≤ 400 := by
    unfold fSuffixesOf
    split
    · simp only
      rw [suf_len]
      omega
    · exact Nat.zero_le _
  obtain ⟨l, hl⟩ : ∃ l, l = (fSuffixesOf s).1 := ⟨_, rfl⟩
  generalize (fSuffixesOf s).2 = ok at *
  rw [← hl] at hr hlen
  clear hl hb hT
  have HR2 : Hid ((kRow kInt).is true w2 T [.slice a n c] l) := hr
  have hn : n = l.length := row_len hr
  have hnc : n ≤ c := row_cap hr
  have HN : Hid (n = l.length) := hn
  have hn4 : n ≤ 400 := by omega
  clear hr hn
  by_cases h1 : 1 < n
  · have l1 : (1 : Int) < (n : Int) := by omega
    have l2 : decide ((1 : Int) < (n : Int)) = true := decide_eq_true l1
    have l3 : decide (1 < n) = true := decide_eq_true h1
    go_wp2_with fail
    refine (one_k w2 g S _ 12 HC2.out (by omega) (by omega) (by omega)).mono ?_
    rintro e w3 ⟨q, rfl, hc3, hk3⟩
    have HC3 : Hid (CurAt w3 g S (m + 140)) := hc3.mono (by omega)
    have HK3 : Hid (KeptO (fun q => q = g) w w3) := HK2.out.trans hk3
    have HR3 : Hid ((kRow kInt).is true w3 T [.slice a n c] l) := Kd.kept HR2.out hk3 (fun k _ hk e => by have := HT.out k hk; omega)
    have z3 : w2.heap.size ≤ w3.heap.size := hk3.size
    clear hc3 hk3
    cases q
    · go_wp2
      refine bodyPost_ret (v := .tuple #[.string s, .slice a n c]) (by simp [results, Try.results37, go_sem]) rfl ?_
      exact ⟨s, a, n, c, T, l, rfl, hs, HR3.out, fun k hk => by have := HT.out k hk; omega, hlen, HC3.out, HK3.out⟩
    · obtain ⟨y0, hy0⟩ : ∃ y, l[0]? = some y := ⟨_, List.getElem?_eq_getElem (by rw [← HN.out]; omega)⟩
      obtain ⟨y1, hy1⟩ : ∃ y, l[1]? = some y := ⟨_, List.getElem?_eq_getElem (by rw [← HN.out]; omega)⟩
      obtain ⟨b, off, rfl, hbl, _, A0⟩ := rowI_at ((kRow kInt).read HR3.out) hy0
      obtain ⟨b', off', e', _, _, A1⟩ := rowI_at ((kRow kInt).read HR3.out) hy1
      obtain ⟨rfl, rfl⟩ : b = b' ∧ off = off' := by simpa using e'
      have hok := rowI_ok HR3.out
      have HOK : Hid (∀ x ∈ [y1, y0] ++ l.drop 2, IntOk x) := fun x hx => by
        rcases List.mem_append.1 hx with h | h
        · rcases List.mem_cons.1 h with rfl | h
          · exact hok _ (List.mem_of_getElem? hy1)
          · obtain rfl : x = y0 := by simpa using h
            exact hok _ (List.mem_of_getElem? hy0)
        · exact hok x (List.mem_of_mem_drop h)
      have HLE : Hid (([y1, y0] ++ l.drop 2).length = n) := by show _ = _; rw [HN.out]; simp; have := HN.out; omega
      have HLD : Hid ((l.drop 2).length = n - 2) := by show _ = _; rw [List.length_drop, HN.out]
      have A0' : w3.cell? ⟨b, off, none⟩ = some (.int .i64 y0) := A0
      clear hy0 hy1 e' hok A0
      have i0 : (0 : Int) < (n : Int) := by omega
      have i2 : (2 : Int) ≤ (n : Int) := by omega
      have i3 : (2 : Int) ≤ (c : Int) := by omega
      have i4 : 0 < n := by omega
      have i5 : 1 < n := by omega
      rcases Nat.lt_or_ge 2 c with h2c | h2c
      · have h2d : ¬ c = 2 := by omega
        have HDR : Hid (∀ W, Below w3.heap.size w3 W → (kRow kInt).is false W T [.slice (some ⟨b, off + 2, none⟩) (n - 2) (c - 2)] (l.drop 2)) := fun W hW => row_dropA (Kd.below ((kRow kInt).read HR3.out) hW) (by omega)
        have HDW : Hid (∀ o, Below w3.heap.size w3 (w3.drew.alloc o)) := fun o => ((Below.refl _ _).drew).alloc (Nat.le_refl _) o
        go_wp2_with fail
        go_region_law (first | (refine step_appI (by rfl) _ _ (by rfl) w3.heap.size _ [y1, y0] (by rfl) (own_two (w := w3.drew)) _ _ _ T (l.drop 2) (by rfl) (HDR.out _ (HDW.out _)) (by rw [HLD.out]; simp only [List.length_cons, List.length_nil]; omega) (by simp [World.drew]) ?_; intro v5 w5 ho5 hb5))
        all_goals
          have HO5 : Hid (OwnL inC 3 1 w5 w3.heap.size v5 ([y1, y0] ++ l.drop 2)) := ho5
          have HB5 : Hid (Below w3.heap.size w3 w5) := (HDW.out _).trans hb5
          obtain ⟨a5, c5, rfl, hc5⟩ := ho5.form
          clear ho5 hb5
          rw [HLE.out] at HO5 hc5 ⊢
          go_wp2
          refine bodyPost_ret (v := .tuple #[.string s, .slice a5 n c5]) (by simp [results, Try.results37, go_sem]) rfl ?_
          exact ⟨s, a5, n, c5, _, _, rfl, hs, own_intK HO5.out (by rw [HLE.out]; omega) HOK.out, fun k hk => by omega, by rw [HLE.out]; omega, HC3.out.up HB5.out (Nat.le_refl _) (by omega) (fun k hk => by have := HSL.out k hk; omega), HK3.out.trans (KeptO.of HB5.out)⟩
      · obtain rfl : c = 2 := by omega
        obtain rfl : n = 2 := by omega
        have HDR : Hid (∀ W, Below w3.heap.size w3 W → (kRow kInt).is false W T [.slice (some ⟨b, off, none⟩) 0 0] (l.drop 2)) := fun W hW => by
          rw [List.drop_eq_nil_of_le (by rw [← HN.out]; omega)]
          exact row_nil _ _ _ _ _ _
        have HDW : Hid (∀ o, Below w3.heap.size w3 (w3.drew.alloc o)) := fun o => ((Below.refl _ _).drew).alloc (Nat.le_refl _) o
        go_wp2_with fail
        go_region_law (first | (refine step_appI (by rfl) _ _ (by rfl) w3.heap.size _ [y1, y0] (by rfl) (own_two (w := w3.drew)) _ _ _ T (l.drop 2) (by rfl) (HDR.out _ (HDW.out _)) (by rw [HLD.out]; simp only [List.length_cons, List.length_nil]; omega) (by simp [World.drew]) ?_; intro v5 w5 ho5 hb5))
        all_goals
          have HO5 : Hid (OwnL inC 3 1 w5 w3.heap.size v5 ([y1, y0] ++ l.drop 2)) := ho5
          have HB5 : Hid (Below w3.heap.size w3 w5) := (HDW.out _).trans hb5
          obtain ⟨a5, c5, rfl, hc5⟩ := ho5.form
          clear ho5 hb5
          rw [HLE.out] at HO5 hc5 ⊢
          go_wp2
          refine bodyPost_ret (v := .tuple #[.string s, .slice a5 2 c5]) (by simp [results, Try.results37, go_sem]) rfl ?_
          exact ⟨s, a5, 2, c5, _, _, rfl, hs, own_intK HO5.out (by rw [HLE.out]; omega) HOK.out, fun k hk => by omega, by rw [HLE.out]; omega, HC3.out.up HB5.out (Nat.le_refl _) (by omega) (fun k hk => by have := HSL.out k hk; omega), HK3.out.trans (KeptO.of HB5.out)⟩
  · have l1 : ¬ (1 : Int) < (n : Int) := by omega
    have l2 : decide ((1 : Int) < (n : Int)) = false := decide_eq_false l1
    have l3 : decide (1 < n) = false := decide_eq_false h1
    have HC3 : Hid (CurAt w2 g S (m + 140)) := HC2.out.mono (by omega)
    go_wp2
    refine bodyPost_ret (v := .tuple #[.string s, .slice a n c]) (by simp [results, Try.results37, go_sem]) rfl ?_
    exact ⟨s, a, n, c, T, l, rfl, hs, HR2.out, fun k hk => by have := HT.out k hk; omega, hlen, HC3.out, HK2.out⟩
end Go.Proofs.Ytkboblfjchkedaa
