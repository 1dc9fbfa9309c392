/- Texts that are drawn: some texts, not long. No condition but that it fits in memory. -/
import Derived.Test.YtikgcgfigcolmaaCuP
import Derived.Test.YtikgcgfigcolmaaAp
import Derived.Test.YtikgcgfigcolmaaWdS
namespace Go.Proofs.Ytikgcgfigcolmaa
open Go.RowKit
set_option linter.unusedVariables false

def ROf (w : World) (g : Nat) (S : Nat → Prop) (m : Int) (l : List ByteArray) (e : Ending) (w' : World) : Prop := ∃ y, y ∈ l ∧ e = .returned (.string y) ∧ CurAt w' g S m ∧ KeptO (fun k => k = g) w w'
set_option maxRecDepth 100000 in
set_option maxHeartbeats 1000000 in
/-- of(list): one of the list. -/
theorem of_k (w : World) (g : Nat) (S : Nat → Prop) (m : Int) (b : Nat) (l : List ByteArray) (h : CurAt w g S m) (hm : m ≤ 2 ^ 49) (hb : b < w.heap.size) (hbg : b ≠ g) (hl : 1 ≤ l.length) (hl2 : l.length ≤ 200) (hc : ∀ j, j < l.length → w.cell? ⟨b, j, none⟩ = some (.string (l.getD j ⟨#[]⟩))) :
    Calls Try.prog 88 #[.pointer (some ⟨g, 0, none⟩), .slice (some ⟨b, 0, none⟩) l.length l.length] w (ROf w g S (m + 1) l) := by
  have H : Hid (CurAt w g S m) := h
  have HC0 : Hid (∀ j, j < l.length → w.cell? ⟨b, j, none⟩ = some (.string (l.getD j ⟨#[]⟩))) := hc
  obtain ⟨n, hn⟩ : ∃ n, n = l.length := ⟨_, rfl⟩
  have HN : Hid (n = l.length) := hn
  rw [← hn] at hl hl2 ⊢
  clear h hc hn
  go_enter Try.func88, Try.ntmps88
  go_wp2_with fail
  refine (pick_k w g S m n H.out hm (by omega) (by omega)).mono ?_
  rintro e w1 ⟨x, rfl, ⟨b0, b1⟩, hc, hk⟩
  obtain ⟨j, rfl⟩ : ∃ j : Nat, x = j := ⟨x.toNat, by omega⟩
  have hj : j < n := by omega
  have A0 : w1.cell? ⟨b, j, none⟩ = some (.string (l.getD j ⟨#[]⟩)) := cell_keptO hk (HC0.out j (by rw [← HN.out]; exact hj)) hbg
  have HC : Hid (CurAt w1 g S (m + 1)) := hc
  have HK : Hid (KeptO (fun k => k = g) w w1) := hk
  clear hc hk
  have hy : Hid (l.getD j ⟨#[]⟩ ∈ l) := by
    have hj2 : j < l.length := by rw [← HN.out]; exact hj
    show _ ∈ _
    rw [List.getD_eq_getElem?_getD, List.getElem?_eq_getElem hj2]
    exact List.getElem_mem hj2
  generalize l.getD j ⟨#[]⟩ = y at *
  go_wp2
  go_ret
  exact ⟨y, hy.out, rfl, HC.out, HK.out⟩
theorem strs_of {w : World} {vs : List ByteArray} {T : TypeId} (W : World) (hW : W = w.alloc (.cells ((vs.map fun y => Value.string y).toArray) T)) : ∀ j, j < vs.length → W.cell? ⟨w.heap.size, j, none⟩ = some (.string (vs.getD j ⟨#[]⟩)) := by
  intro j hj
  rw [hW, World.cell?_alloc_new]
  simp [hj]
/-- of of a list that is written out. -/
theorem of_at (w : World) (g : Nat) (S : Nat → Prop) (m : Int) (l : List ByteArray) (T : TypeId) (h : CurAt w g S m) (hm : m ≤ 2 ^ 49) (hg : g < w.heap.size) (hl : 1 ≤ l.length) (hl2 : l.length ≤ 200) :
    Calls Try.prog 88 #[.pointer (some ⟨g, 0, none⟩), .slice (some ⟨w.heap.size, 0, none⟩) l.length l.length] (w.alloc (.cells ((l.map fun y => Value.string y).toArray) T)) (ROf w g S (m + 1) l) := by
  refine (of_k _ g S m w.heap.size l (h.below (below_a1' _ _)) hm (by simp) (by omega) hl hl2 (strs_of _ rfl)).mono ?_
  rintro e w' ⟨y, hy, rfl, hc, hk⟩
  exact ⟨y, hy, rfl, hc, (KeptO.of (below_a1' _ _)).trans hk⟩
/-- Some text of at most so many bytes. -/
def RStr (w : World) (g : Nat) (S : Nat → Prop) (m : Int) (B : Nat) (e : Ending) (w' : World) : Prop := ∃ s : ByteArray, e = .returned (.string s) ∧ s.size ≤ B ∧ CurAt w' g S m ∧ KeptO (fun k => k = g) w w'
/-- Some texts, in memory of their own. -/
def RStrs (w : World) (g : Nat) (S : Nat → Prop) (m : Int) (N B : Nat) (e : Ending) (w' : World) : Prop := ∃ (a : Option Addr) (n c : Nat) (T : Nat → Prop) (l : List ByteArray), e = .returned (.slice a n c) ∧ (kRow kStr).is true w' T [.slice a n c] l ∧ (∀ k, T k → w.heap.size ≤ k) ∧ l.length ≤ N ∧ (∀ s ∈ l, s.size ≤ B) ∧ CurAt w' g S m ∧ KeptO (fun k => k = g) w w'
def proseL : List ByteArray := [⟨#[116, 104, 101, 32]⟩, ⟨#[67, 97, 116, 32]⟩, ⟨#[115, 97, 116, 44, 32]⟩, ⟨#[111, 110, 32]⟩, ⟨#[97, 32]⟩, ⟨#[109, 97, 116, 46, 32]⟩, ⟨#[99, 97, 116, 39, 115, 32]⟩, ⟨#[100, 111, 103, 45]⟩, ⟨#[120, 49, 32]⟩]
def askedL : List ByteArray := [⟨#[116, 104, 101]⟩, ⟨#[99, 97, 116]⟩, ⟨#[109, 97, 116]⟩, ⟨#[115]⟩, ⟨#[100, 111, 103]⟩, ⟨#[110, 111, 110, 101]⟩]
def askedM : List ByteArray := [⟨#[]⟩, ⟨#[84, 104, 101]⟩, ⟨#[97, 32, 98]⟩]
theorem proseL_small : ∀ y ∈ proseL, y.size ≤ 6 := by
  intro y hy
  simp only [proseL, List.mem_cons, List.not_mem_nil, or_false] at hy
  rcases hy with rfl | rfl | rfl | rfl | rfl | rfl | rfl | rfl | rfl <;> decide
theorem askedL_small : ∀ y ∈ askedL, y.size ≤ 6 := by
  intro y hy
  simp only [askedL, List.mem_cons, List.not_mem_nil, or_false] at hy
  rcases hy with rfl | rfl | rfl | rfl | rfl | rfl <;> decide
theorem askedM_small : ∀ y ∈ askedM, y.size ≤ 6 := by
  intro y hy
  simp only [askedM, List.mem_cons, List.not_mem_nil, or_false] at hy
  rcases hy with rfl | rfl | rfl <;> decide
theorem makeU8 (n : Nat) (hn : n ≤ 2 ^ 30) (W : World) : (Instr.makeSlice 22 (.int .i64 (n : Int)) (.int .i64 (n : Int))).run Try.prog W = .ok (.slice (some ⟨W.heap.size, 0, none⟩) n n) (W.alloc (.cells (madeCells #[.int .u8 0] n) 5)) := by
  obtain ⟨i0, hi, hz0, hz1, hz2⟩ := info_parts infoByteA
  have h := run_make (P := Try.prog) W 22 5 i0 _ Try.underlying22 hi hz0 .i64 .i64 n n (by omega) (by omega) (by rw [hz2]; omega) (by omega)
  rw [hz1] at h
  simpa [Value.cells] using h
theorem zeros_str (n : Nat) (W : World) : (convert 22 9 (.slice (some ⟨W.heap.size, 0, none⟩) n n)).run Try.prog (W.alloc (.cells (madeCells #[.int .u8 0] n) 5)) = .ok (.string (strOfNums (List.replicate n 0))) (W.alloc (.cells (madeCells #[.int .u8 0] n) 5)) := by
  refine run_convert_bytes_arg _ 22 5 Try.underlying22 Try.underlying5 _ 0 _ _ (List.replicate n 0) (by simp) (fun i hi => ?_) 9 Try.underlying9
  rw [World.cell?_alloc_new]
  simp [madeCells, hi]
  rw [Nat.mod_one]
  rfl
set_option maxRecDepth 100000 in
set_option maxHeartbeats 4000000 in
theorem prose_k (w : World) (g : Nat) (S : Nat → Prop) (m : Int) (h : CurAt w g S m) (hm : m ≤ 2 ^ 40) (hg : g < w.heap.size) :
    Calls Try.prog 82 #[.pointer (some ⟨g, 0, none⟩)] w (RStr w g S (m + 20) 300) := by
  have H : Hid (CurAt w g S m) := h
  clear h
  go_enter Try.func82, Try.ntmps82
  go_wp2_with fail
  refine (pick_k w g S m 7 H.out (by omega) (by omega) (by omega)).mono ?_
  rintro e w1 ⟨n0, rfl, ⟨n00, n01⟩, hc, hk⟩
  obtain ⟨n, rfl⟩ : ∃ n : Nat, n0 = n := ⟨n0.toNat, by omega⟩
  have HC1 : Hid (CurAt w1 g S (m + 1)) := hc
  have HK1 : Hid (KeptO (fun k => k = g) w w1) := hk
  have z1 : w.heap.size ≤ w1.heap.size := hk.size
  clear hc hk
  go_wp2_with fail
  go_loopw [3, 4] (fun sv nv wr => ∃ (k : Nat) (s : ByteArray), k ≤ n ∧ nv = .int .i64 k ∧ sv = .string s ∧ s.size ≤ 6 * (n - k) ∧ Hid (CurAt wr g S (m + 1 + (n - k))) ∧ Hid (KeptO (fun q => q = g) w wr)) (fun _ nv _ => (intOf nv).toNat)
  case atStart => exact ⟨n, ⟨#[]⟩, Nat.le_refl _, rfl, rfl, Nat.zero_le _, HC1.out.mono (by omega), HK1⟩
  case round =>
    obtain ⟨k, s, hk, rfl, rfl, hsz, HC, HK⟩ := hrel
    have zr : w.heap.size ≤ wr.heap.size := HK.out.size
    by_cases h0 : k = 0
    · obtain rfl : k = 0 := h0
      go_wp2_with fail
      refine (one_k wr g S _ 40 HC.out (by omega) (by omega) (by omega)).mono ?_
      rintro e w2 ⟨b, rfl, hc2, hk2⟩
      have HC2 : Hid (CurAt w2 g S (m + 1 + (n - (0 : Nat)) + 1)) := hc2
      have HK2 : Hid (KeptO (fun q => q = g) w w2) := HK.out.trans hk2
      clear hc2 hk2
      have hs36 : s.size ≤ 36 := by omega
      have last : ∀ (s : ByteArray) (w3 : World), s.size ≤ 250 → CurAt w3 g S (m + 12) → KeptO (fun q => q = g) w w3 → Hid (s.size ≤ 250 ∧ CurAt w3 g S (m + 12) ∧ KeptO (fun q => q = g) w w3) := fun s w3 h1 h2 h3 => ⟨h1, h2, h3⟩
      cases b
      · have HL := last s w2 (by omega) (HC2.out.mono (by omega)) HK2.out
        clear last
        obtain ⟨HLa, HLb, HLc⟩ := HL.out
        have HCA : Hid (CurAt w2 g S (m + 12)) := HLb
        have HKA : Hid (KeptO (fun q => q = g) w w2) := HLc
        clear HL HLb HLc
        go_wp2_with fail
        refine (one_k w2 g S _ 30 HCA.out (by omega) (by omega) (by omega)).mono ?_
        rintro e w5 ⟨b5, rfl, hc5, hk5⟩
        have HC5 : Hid (CurAt w5 g S (m + 12 + 1)) := hc5
        have HK5 : Hid (KeptO (fun q => q = g) w w5) := HKA.out.trans hk5
        clear hc5 hk5
        cases b5
        · go_wp2
          go_ret
          exact ⟨_, rfl, by omega, HC5.out.mono (by omega), HK5.out⟩
        · have hfin : ∀ y : ByteArray, y.size ≤ 26 → (s ++ y).size ≤ 300 := fun y hy => by rw [ByteArray.size_append]; omega
          go_wp2
          go_ret
          exact ⟨_, rfl, hfin _ (by decide), HC5.out.mono (by omega), HK5.out⟩
      · go_wp2_with fail
        refine (pick_k w2 g S _ 20 HC2.out (by omega) (by omega) (by omega)).mono ?_
        rintro e w3 ⟨t0, rfl, ⟨t00, t01⟩, hc3, hk3⟩
        obtain ⟨t, rfl⟩ : ∃ t : Nat, t0 = t := ⟨t0.toNat, by omega⟩
        have HC3 : Hid (CurAt w3 g S (m + 1 + (n - (0 : Nat)) + 1 + 1)) := hc3
        have HK3 : Hid (KeptO (fun q => q = g) w w3) := HK2.out.trans hk3
        clear hc3 hk3
        obtain ⟨p, hp⟩ : ∃ p : Nat, p = 190 + t := ⟨_, rfl⟩
        have hp' : (190 : Int) + (t : Int) = (p : Int) := by omega
        have hp209 : p ≤ 209 := by omega
        have MK := makeU8 p (by omega) w3
        have ZS := zeros_str p w3
        obtain ⟨W4, hW4⟩ : ∃ W4, W4 = w3.alloc (.cells (madeCells #[.int .u8 0] p) 5) := ⟨_, rfl⟩
        have hb4 : Below w3.heap.size w3 W4 := by rw [hW4]; exact below_a1' _ _
        obtain ⟨zs, hzs⟩ : ∃ zs, zs = strOfNums (List.replicate p 0) := ⟨_, rfl⟩
        have hzz : zs.size = p := by rw [hzs, strOfNums_size]; simp
        have HL := last (s ++ zs) W4 (by rw [ByteArray.size_append]; omega) ((HC3.out.below hb4).mono (by omega)) (HK3.out.low (hb4.mono HK3.out.size))
        rw [← hW4] at MK ZS
        rw [← hzs] at ZS
        have hzb : zs.size ≤ 209 := by omega
        clear hp hW4 hzs hb4 last hzz
        obtain ⟨sz, hsz'⟩ : ∃ sz, sz = s ++ zs := ⟨_, rfl⟩
        rw [← hsz'] at HL
        go_wp2_with fail
        try rw [← hsz']
        clear hsz'
        obtain ⟨HLa, HLb, HLc⟩ := HL.out
        have HCA : Hid (CurAt W4 g S (m + 12)) := HLb
        have HKA : Hid (KeptO (fun q => q = g) w W4) := HLc
        clear HL HLb HLc
        refine (one_k W4 g S _ 30 HCA.out (by omega) (by omega) (by omega)).mono ?_
        rintro e w5 ⟨b5, rfl, hc5, hk5⟩
        have HC5 : Hid (CurAt w5 g S (m + 12 + 1)) := hc5
        have HK5 : Hid (KeptO (fun q => q = g) w w5) := HKA.out.trans hk5
        clear hc5 hk5
        cases b5
        · go_wp2
          go_ret
          exact ⟨_, rfl, by omega, HC5.out.mono (by omega), HK5.out⟩
        · have hfin : ∀ y : ByteArray, y.size ≤ 26 → (sz ++ y).size ≤ 300 := fun y hy => by rw [ByteArray.size_append]; omega
          go_wp2
          go_ret
          exact ⟨_, rfl, hfin _ (by decide), HC5.out.mono (by omega), HK5.out⟩
    · obtain ⟨j, rfl⟩ : ∃ j, k = j + 1 := ⟨k - 1, by omega⟩
      have hjp : (0 : Int) < ((j + 1 : Nat) : Int) := by omega
      go_wp2_with fail
      refine (of_at wr g S _ proseL _ HC.out (by omega) (by omega) (by decide) (by decide)).mono ?_
      rintro e w2 ⟨y, hy, rfl, hc2, hk2⟩
      have hy6 := proseL_small y hy
      have HC2 : Hid (CurAt w2 g S (m + 1 + (n - (j + 1 : Nat)) + 1)) := hc2
      have HK2 : Hid (KeptO (fun q => q = g) w w2) := HK.out.trans hk2
      clear hc2 hk2 hy
      have hsy : (s ++ y).size ≤ 6 * (n - j) := by rw [ByteArray.size_append]; omega
      go_wp2
      go_roundw
      case rel => exact ⟨j, s ++ y, by omega, by congr 1, rfl, hsy, HC2.out.mono (by omega), HK2⟩
      case measure => simp [intOf]
theorem strs_row {w : World} {B : Nat} {a : Option Addr} {n c : Nat} {L : List ByteArray} (h : OwnL (fun y => [.string y]) 9 1 w B (.slice a n c) L) (hl : L.length ≤ 2 ^ 30) (hs : ∀ s ∈ L, s.size ≤ 300) : (kRow kStr).is true w (fun k => B ≤ k) [.slice a n c] L :=
  own_kRow (K := kStr) (fun _ => rfl) h (by unfold maxLen; omega) (fun x hx W S => ⟨rfl, by have := hs x hx; unfold maxLen; omega⟩)
set_option maxRecDepth 100000 in
set_option maxHeartbeats 4000000 in
theorem texts_k (w : World) (g : Nat) (S : Nat → Prop) (m : Int) (h : CurAt w g S m) (hm : m ≤ 2 ^ 39) (hg : g < w.heap.size) (hS : ∀ k, S k → k < w.heap.size) :
    Calls Try.prog 38 #[.pointer (some ⟨g, 0, none⟩)] w (RStrs w g S (m + 1000) 41 300) := by
  have H : Hid (CurAt w g S m) := h
  have HSL : Hid (∀ k, S k → k < w.heap.size) := hS
  clear h hS
  go_enter Try.func38, Try.ntmps38
  go_wp2_with fail
  refine (pick_k w g S m 6 H.out (by omega) (by omega) (by omega)).mono ?_
  rintro e w1 ⟨n0, rfl, ⟨n00, n01⟩, hc, hk⟩
  obtain ⟨n, rfl⟩ : ∃ n : Nat, n0 = n := ⟨n0.toNat, by omega⟩
  have HC1 : Hid (CurAt w1 g S (m + 1)) := hc
  have HK1 : Hid (KeptO (fun k => k = g) w w1) := hk
  clear hc hk
  go_wp2_with fail
  refine (one_k w1 g S _ 40 HC1.out (by omega) (by omega) (by omega)).mono ?_
  rintro e w2 ⟨b, rfl, hc2, hk2⟩
  have HC2 : Hid (CurAt w2 g S (m + 1 + 1)) := hc2
  have HK2 : Hid (KeptO (fun q => q = g) w w2) := HK1.out.trans hk2
  clear hc2 hk2
  cases b
  · go_wp2_with fail
    have HC3 : Hid (CurAt w2 g S (m + 3)) := HC2.out.mono (by omega)
    have n41 : n ≤ 41 := by omega
    have z2 : w.heap.size ≤ w2.heap.size := HK2.out.size
    go_loopw [3, 4] (fun lv nv wr => ∃ (k : Nat) (L : List ByteArray), k ≤ n ∧ L.length + k = n ∧ nv = .int .i64 k ∧ Hid (OwnL (fun y => [.string y]) 9 1 wr w2.heap.size lv L) ∧ Hid (∀ s ∈ L, s.size ≤ 300) ∧ Hid (CurAt wr g S (m + 3 + 20 * (n - k))) ∧ Hid (KeptO (fun q => q = g) w wr) ∧ w2.heap.size ≤ wr.heap.size) (fun _ nv _ => (intOf nv).toNat)
    case atStart => exact ⟨n, [], Nat.le_refl _, by simp, rfl, OwnL.nil _ _ _ _ _, (fun s hs => by simp at hs), HC3.out.mono (by omega), HK2, Nat.le_refl _⟩
    case round =>
      obtain ⟨k, L, hk, hLk, rfl, HO, HSm, HC, HK, zr⟩ := hrel
      obtain ⟨oa, oc, hov, _⟩ := HO.out.form
      subst hov
      obtain ⟨ln, hln⟩ : ∃ ln, ln = L.length := ⟨_, rfl⟩
      have HLN : Hid (ln = L.length) := hln
      rw [← hln] at HO hLk ⊢
      clear hln
      by_cases h0 : k = 0
      · obtain rfl : k = 0 := h0
        have HP : Hid ((kRow kStr).is true wr (fun k => w2.heap.size ≤ k) [.slice oa ln oc] L) := strs_row HO.out (by rw [← HLN.out]; omega) HSm.out
        go_wp2
        go_ret
        exact ⟨oa, ln, oc, _, L, rfl, HP.out, fun k hk => Nat.le_trans z2 hk, by rw [← HLN.out]; omega, HSm.out, HC.out.mono (by omega), HK.out⟩
      · obtain ⟨j, rfl⟩ : ∃ j, k = j + 1 := ⟨k - 1, by omega⟩
        have hjp : (0 : Int) < ((j + 1 : Nat) : Int) := by omega
        go_wp2_with fail
        refine (prose_k wr g S _ HC.out (by omega) (by omega)).mono ?_
        rintro e w4 ⟨s, rfl, hs, hc4, hk4⟩
        have HC4 : Hid (CurAt w4 g S (m + 3 + 20 * (n - (j + 1 : Nat)) + 20)) := hc4
        have HK4 : Hid (KeptO (fun q => q = g) w w4) := HK.out.trans hk4
        have HO4 : Hid (OwnL (fun y => [.string y]) 9 1 w4 w2.heap.size (.slice oa ln oc) L) := HO.out.kept hk4 (fun k hk e => by have e' : k = g := e; omega)
        have z4 : wr.heap.size ≤ w4.heap.size := hk4.size
        have HLL : Hid (L.length < 2 ^ 30) := by show _ < _; rw [← HLN.out]; omega
        clear hc4 hk4 HO HC HK
        go_wp2_with (at_builtin; go_loud (refine app_str rfl _ _ rfl w2.heap.size (.slice oa ln oc) L rfl (OwnL.below HO4.out (below_a1' _ _)) _ s rfl (by simp [go_sem]) HLL.out (by simp; omega) ?_))
        intro v5 w5 ho5 hb5 hg5
        have HO5 : Hid (OwnL (fun y => [.string y]) 9 1 w5 w2.heap.size v5 (L ++ [s])) := ho5
        have HC5 : Hid (CurAt w5 g S (m + 3 + 20 * (n - (j + 1 : Nat)) + 20)) := (HC4.out.below (below_a1' w4 _)).kept hg5.kept (HO4.out.ne (.inl (by omega))) (fun k hk => HO4.out.ne (.inl (by have := HSL.out k hk; omega)))
        have HK5 : Hid (KeptO (fun q => q = g) w w5) := HK4.out.low (((below_a1' w4 _).mono (by omega)).trans (hb5.mono (by omega)))
        have z5 : w2.heap.size ≤ w5.heap.size := by have := hb5.size; simp at this; omega
        have HS5 : Hid (∀ x ∈ L ++ [s], x.size ≤ 300) := fun x hx => by
          rcases List.mem_append.1 hx with h | h
          · exact HSm.out x h
          · have : x = s := by simpa using h
            rw [this]; exact hs
        clear ho5 hb5 hg5
        go_wp2
        go_roundw
        case rel => exact ⟨j, L ++ [s], by omega, by rw [List.length_append, ← HLN.out]; simp; omega, by congr 1, HO5, HS5, HC5.out.mono (by omega), HK5, z5⟩
        case measure => simp [intOf]
  · go_wp2_with fail
    refine (pick_k w2 g S _ 2 HC2.out (by omega) (by omega) (by omega)).mono ?_
    rintro e w3 ⟨t0, rfl, ⟨t00, t01⟩, hc3, hk3⟩
    obtain ⟨t, rfl⟩ : ∃ t : Nat, t0 = t := ⟨t0.toNat, by omega⟩
    have HC3 : Hid (CurAt w3 g S (m + 3)) := hc3.mono (by omega)
    have HK3 : Hid (KeptO (fun q => q = g) w w3) := HK2.out.trans hk3
    have z2 : w.heap.size ≤ w3.heap.size := HK3.out.size
    clear hc3 hk3 HK2
    obtain ⟨n', hn'⟩ : ∃ n' : Nat, n' = 40 + t := ⟨_, rfl⟩
    have hn2 : (40 : Int) + (t : Int) = (n' : Int) := by omega
    have n41 : n' ≤ 41 := by omega
    clear hn'
    go_wp2_with fail
    have HK2 := HK3
    clear HK3
    go_loopw [3, 4] (fun lv nv wr => ∃ (k : Nat) (L : List ByteArray), k ≤ n' ∧ L.length + k = n' ∧ nv = .int .i64 k ∧ Hid (OwnL (fun y => [.string y]) 9 1 wr w3.heap.size lv L) ∧ Hid (∀ s ∈ L, s.size ≤ 300) ∧ Hid (CurAt wr g S (m + 3 + 20 * (n' - k))) ∧ Hid (KeptO (fun q => q = g) w wr) ∧ w3.heap.size ≤ wr.heap.size) (fun _ nv _ => (intOf nv).toNat)
    case atStart => exact ⟨n', [], Nat.le_refl _, by simp, rfl, OwnL.nil _ _ _ _ _, (fun s hs => by simp at hs), HC3.out.mono (by omega), HK2, Nat.le_refl _⟩
    case round =>
      obtain ⟨k, L, hk, hLk, rfl, HO, HSm, HC, HK, zr⟩ := hrel
      obtain ⟨oa, oc, hov, _⟩ := HO.out.form
      subst hov
      obtain ⟨ln, hln⟩ : ∃ ln, ln = L.length := ⟨_, rfl⟩
      have HLN : Hid (ln = L.length) := hln
      rw [← hln] at HO hLk ⊢
      clear hln
      by_cases h0 : k = 0
      · obtain rfl : k = 0 := h0
        have HP : Hid ((kRow kStr).is true wr (fun k => w3.heap.size ≤ k) [.slice oa ln oc] L) := strs_row HO.out (by rw [← HLN.out]; omega) HSm.out
        go_wp2
        go_ret
        exact ⟨oa, ln, oc, _, L, rfl, HP.out, fun k hk => Nat.le_trans z2 hk, by rw [← HLN.out]; omega, HSm.out, HC.out.mono (by omega), HK.out⟩
      · obtain ⟨j, rfl⟩ : ∃ j, k = j + 1 := ⟨k - 1, by omega⟩
        have hjp : (0 : Int) < ((j + 1 : Nat) : Int) := by omega
        go_wp2_with fail
        refine (prose_k wr g S _ HC.out (by omega) (by omega)).mono ?_
        rintro e w4 ⟨s, rfl, hs, hc4, hk4⟩
        have HC4 : Hid (CurAt w4 g S (m + 3 + 20 * (n' - (j + 1 : Nat)) + 20)) := hc4
        have HK4 : Hid (KeptO (fun q => q = g) w w4) := HK.out.trans hk4
        have HO4 : Hid (OwnL (fun y => [.string y]) 9 1 w4 w3.heap.size (.slice oa ln oc) L) := HO.out.kept hk4 (fun k hk e => by have e' : k = g := e; omega)
        have z4 : wr.heap.size ≤ w4.heap.size := hk4.size
        have HLL : Hid (L.length < 2 ^ 30) := by show _ < _; rw [← HLN.out]; omega
        clear hc4 hk4 HO HC HK
        go_wp2_with (at_builtin; go_loud (refine app_str rfl _ _ rfl w3.heap.size (.slice oa ln oc) L rfl (OwnL.below HO4.out (below_a1' _ _)) _ s rfl (by simp [go_sem]) HLL.out (by simp; omega) ?_))
        intro v5 w5 ho5 hb5 hg5
        have HO5 : Hid (OwnL (fun y => [.string y]) 9 1 w5 w3.heap.size v5 (L ++ [s])) := ho5
        have HC5 : Hid (CurAt w5 g S (m + 3 + 20 * (n' - (j + 1 : Nat)) + 20)) := (HC4.out.below (below_a1' w4 _)).kept hg5.kept (HO4.out.ne (.inl (by omega))) (fun k hk => HO4.out.ne (.inl (by have := HSL.out k hk; omega)))
        have HK5 : Hid (KeptO (fun q => q = g) w w5) := HK4.out.low (((below_a1' w4 _).mono (by omega)).trans (hb5.mono (by omega)))
        have z5 : w3.heap.size ≤ w5.heap.size := by have := hb5.size; simp at this; omega
        have HS5 : Hid (∀ x ∈ L ++ [s], x.size ≤ 300) := fun x hx => by
          rcases List.mem_append.1 hx with h | h
          · exact HSm.out x h
          · have : x = s := by simpa using h
            rw [this]; exact hs
        clear ho5 hb5 hg5
        go_wp2
        go_roundw
        case rel => exact ⟨j, L ++ [s], by omega, by rw [List.length_append, ← HLN.out]; simp; omega, by congr 1, HO5, HS5, HC5.out.mono (by omega), HK5, z5⟩
        case measure => simp [intOf]
set_option maxRecDepth 100000 in
set_option maxHeartbeats 4000000 in
theorem asked_k (w : World) (g : Nat) (S : Nat → Prop) (m : Int) (h : CurAt w g S m) (hm : m ≤ 2 ^ 39) (hg : g < w.heap.size) (hS : ∀ k, S k → k < w.heap.size) :
    Calls Try.prog 46 #[.pointer (some ⟨g, 0, none⟩)] w (RStrs w g S (m + 10) 4 6) := by
  have H : Hid (CurAt w g S m) := h
  have HSL : Hid (∀ k, S k → k < w.heap.size) := hS
  clear h hS
  go_enter Try.func46, Try.ntmps46
  go_wp2_with fail
  refine (pick_k w g S m 4 H.out (by omega) (by omega) (by omega)).mono ?_
  rintro e w1 ⟨n0, rfl, ⟨n00, n01⟩, hc, hk⟩
  obtain ⟨n, rfl⟩ : ∃ n : Nat, n0 = n := ⟨n0.toNat, by omega⟩
  have HC1 : Hid (CurAt w1 g S (m + 1)) := hc
  have HK1 : Hid (KeptO (fun k => k = g) w w1) := hk
  have z1 : w.heap.size ≤ w1.heap.size := hk.size
  clear hc hk
  go_wp2_with fail
  go_loopw [3, 4] (fun lv nv wr => ∃ (k : Nat) (L : List ByteArray), k ≤ n ∧ L.length + k = n ∧ nv = .int .i64 k ∧ Hid (OwnL (fun y => [.string y]) 9 1 wr w1.heap.size lv L) ∧ Hid (∀ s ∈ L, s.size ≤ 6) ∧ Hid (CurAt wr g S (m + 1 + (n - k))) ∧ Hid (KeptO (fun q => q = g) w wr) ∧ w1.heap.size ≤ wr.heap.size) (fun _ nv _ => (intOf nv).toNat)
  case atStart => exact ⟨n, [], Nat.le_refl _, by simp, rfl, OwnL.nil _ _ _ _ _, (fun s hs => by simp at hs), HC1.out.mono (by omega), HK1, Nat.le_refl _⟩
  case round =>
    obtain ⟨k, L, hk, hLk, rfl, HO, HSm, HC, HK, zr⟩ := hrel
    obtain ⟨oa, oc, hov, _⟩ := HO.out.form
    subst hov
    obtain ⟨ln, hln⟩ : ∃ ln, ln = L.length := ⟨_, rfl⟩
    have HLN : Hid (ln = L.length) := hln
    rw [← hln] at HO hLk ⊢
    clear hln
    have HLL : Hid (L.length < 2 ^ 30) := by show _ < _; rw [← HLN.out]; omega
    by_cases h0 : k = 0
    · obtain rfl : k = 0 := h0
      go_wp2_with fail
      refine (one_k wr g S _ 20 HC.out (by omega) (by omega) (by omega)).mono ?_
      rintro e w4 ⟨b, rfl, hc4, hk4⟩
      have HC4 : Hid (CurAt w4 g S (m + 1 + (n - (0 : Nat)) + 1)) := hc4
      have HK4 : Hid (KeptO (fun q => q = g) w w4) := HK.out.trans hk4
      have HO4 : Hid (OwnL (fun y => [.string y]) 9 1 w4 w1.heap.size (.slice oa ln oc) L) := HO.out.kept hk4 (fun k hk e => by have e' : k = g := e; omega)
      have z4 : wr.heap.size ≤ w4.heap.size := hk4.size
      clear hc4 hk4 HO HC HK
      cases b
      · have HP : Hid ((kRow kStr).is true w4 (fun k => w1.heap.size ≤ k) [.slice oa ln oc] L) := strs_row HO4.out (by rw [← HLN.out]; omega) (fun s hs => by have := HSm.out s hs; omega)
        go_wp2
        go_ret
        exact ⟨oa, ln, oc, _, L, rfl, HP.out, fun k hk => Nat.le_trans z1 hk, by rw [← HLN.out]; omega, HSm.out, HC4.out.mono (by omega), HK4.out⟩
      · go_wp2_with fail
        refine (of_at w4 g S _ askedM _ HC4.out (by omega) (by omega) (by decide) (by decide)).mono ?_
        rintro e w6 ⟨s, hy, rfl, hc6, hk6⟩
        have hs := askedM_small s hy
        have HC6 : Hid (CurAt w6 g S (m + 1 + (n - (0 : Nat)) + 1 + 1)) := hc6
        have HK6 : Hid (KeptO (fun q => q = g) w w6) := HK4.out.trans hk6
        have HO6 : Hid (OwnL (fun y => [.string y]) 9 1 w6 w1.heap.size (.slice oa ln oc) L) := HO4.out.kept hk6 (fun k hk e => by have e' : k = g := e; omega)
        have z6 : w4.heap.size ≤ w6.heap.size := hk6.size
        clear hc6 hk6 HO4 HC4 HK4 hy
        go_wp2_with (at_builtin; go_loud (refine app_str rfl _ _ rfl w1.heap.size (.slice oa ln oc) L rfl (OwnL.below HO6.out (below_a1' _ _)) _ s rfl (by simp [go_sem]) HLL.out (by simp; omega) ?_))
        intro v5 w5 ho5 hb5 hg5
        obtain ⟨va, vc, hv, _⟩ := ho5.form
        subst hv
        have HS5 : Hid (∀ x ∈ L ++ [s], x.size ≤ 6) := fun x hx => by
          rcases List.mem_append.1 hx with h | h
          · exact HSm.out x h
          · have : x = s := by simpa using h
            rw [this]; exact hs
        have HP : Hid ((kRow kStr).is true w5 (fun k => w1.heap.size ≤ k) [.slice va (L ++ [s]).length vc] (L ++ [s])) := strs_row ho5 (by rw [List.length_append, ← HLN.out]; simp; omega) (fun x hx => by have := HS5.out x hx; omega)
        have HC5 : Hid (CurAt w5 g S (m + 1 + (n - (0 : Nat)) + 1 + 1)) := (HC6.out.below (below_a1' w6 _)).kept hg5.kept (HO6.out.ne (.inl (by omega))) (fun k hk => HO6.out.ne (.inl (by have := HSL.out k hk; omega)))
        have HK5 : Hid (KeptO (fun q => q = g) w w5) := HK6.out.low (((below_a1' w6 _).mono (by omega)).trans (hb5.mono (by omega)))
        have hlen : (L ++ [s]).length ≤ 4 := by rw [List.length_append, ← HLN.out]; simp; omega
        clear ho5 hb5 hg5
        generalize hLS : L ++ [s] = LS at *
        go_wp2
        go_ret
        exact ⟨va, _, vc, _, LS, rfl, HP.out, fun k hk => Nat.le_trans z1 hk, hlen, HS5.out, HC5.out.mono (by omega), HK5.out⟩
    · obtain ⟨j, rfl⟩ : ∃ j, k = j + 1 := ⟨k - 1, by omega⟩
      have hjp : (0 : Int) < ((j + 1 : Nat) : Int) := by omega
      go_wp2_with fail
      refine (of_at wr g S _ askedL _ HC.out (by omega) (by omega) (by decide) (by decide)).mono ?_
      rintro e w4 ⟨s, hy, rfl, hc4, hk4⟩
      have hs := askedL_small s hy
      have HC4 : Hid (CurAt w4 g S (m + 1 + (n - (j + 1 : Nat)) + 1)) := hc4
      have HK4 : Hid (KeptO (fun q => q = g) w w4) := HK.out.trans hk4
      have HO4 : Hid (OwnL (fun y => [.string y]) 9 1 w4 w1.heap.size (.slice oa ln oc) L) := HO.out.kept hk4 (fun k hk e => by have e' : k = g := e; omega)
      have z4 : wr.heap.size ≤ w4.heap.size := hk4.size
      clear hc4 hk4 HO HC HK hy
      go_wp2_with (at_builtin; go_loud (refine app_str rfl _ _ rfl w1.heap.size (.slice oa ln oc) L rfl (OwnL.below HO4.out (below_a1' _ _)) _ s rfl (by simp [go_sem]) HLL.out (by simp; omega) ?_))
      intro v5 w5 ho5 hb5 hg5
      have HO5 : Hid (OwnL (fun y => [.string y]) 9 1 w5 w1.heap.size v5 (L ++ [s])) := ho5
      have HC5 : Hid (CurAt w5 g S (m + 1 + (n - (j + 1 : Nat)) + 1)) := (HC4.out.below (below_a1' w4 _)).kept hg5.kept (HO4.out.ne (.inl (by omega))) (fun k hk => HO4.out.ne (.inl (by have := HSL.out k hk; omega)))
      have HK5 : Hid (KeptO (fun q => q = g) w w5) := HK4.out.low (((below_a1' w4 _).mono (by omega)).trans (hb5.mono (by omega)))
      have z5 : w1.heap.size ≤ w5.heap.size := by have := hb5.size; simp at this; omega
      have HS5 : Hid (∀ x ∈ L ++ [s], x.size ≤ 6) := fun x hx => by
        rcases List.mem_append.1 hx with h | h
        · exact HSm.out x h
        · have : x = s := by simpa using h
          rw [this]; exact hs
      clear ho5 hb5 hg5
      go_wp2
      go_roundw
      case rel => exact ⟨j, L ++ [s], by omega, by rw [List.length_append, ← HLN.out]; simp; omega, by congr 1, HO5, HS5, HC5.out.mono (by omega), HK5, z5⟩
      case measure => simp [intOf]
end Go.Proofs.Ytikgcgfigcolmaa
