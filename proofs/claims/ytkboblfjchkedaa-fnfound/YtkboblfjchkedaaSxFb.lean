/- FindIn: the program's. No condition but that texts and a list fit in memory. -/
import Derived.Test.YtkboblfjchkedaaSxFa
namespace Go.Proofs.Ytkboblfjchkedaa
open Go.RowKit Go.Sort
set_option linter.unusedVariables false

/-- Numbers sorted. -/
def srtI (l : List Int) : List Int := l.mergeSort fun x y => decide (x ≤ y)
set_option maxHeartbeats 1000000 in
theorem sortInt_k (l : List Int) (a : Option Addr) (n c : Nat) (S : Nat → Prop) (w : World) (h : (kRow kInt).is true w S [.slice a n c] l) (hl : l.length ≤ 2 ^ 20) :
    Calls Try.prog 43 #[.slice a n c] w fun e w' => e = .returned (.tuple #[]) ∧ (kRow kInt).is true w' S [.slice a n c] (srtI l) ∧ KeptO S w w' := by
  have hn := row_len h
  have hok := kInt_plain.oks h
  by_cases h0 : l = []
  · subst h0
    have hn0 : n = 0 := hn
    subst hn0
    refine (Any.slices_Sort_int_none Try.lays189 a c w).mono ?_
    rintro e w' ⟨rfl, rfl⟩
    exact ⟨rfl, by unfold srtI; simpa using h, KeptO.refl _ _⟩
  · obtain ⟨x, hx⟩ : ∃ x, l[0]? = some x := ⟨_, List.getElem?_eq_getElem (List.length_pos_iff.2 h0)⟩
    obtain ⟨b, off, B, C, e, hb, hSb, _⟩ := row_at h hx
    subst e
    have hnc := row_cap h
    have hH := kInt_plain.holds (enc := Value.int .i64) (fun _ => rfl) rfl h
    have hcon := Any.slices_Sort_int Try.lays189 b off c l w hH hb (by omega)
    rw [← hn] at hcon
    refine Calls.mono hcon ?_
    rintro e w' ⟨rfl, m, os, rfl⟩
    have hp : (srtI l).Perm l := List.mergeSort_perm l _
    have hs : (l.mergeSort fun x y => decide (x ≤ y)).toArray = (srtI l).toArray := rfl
    rw [hs]
    have hH2 := holds_sortWorld (Value.int .i64) w b off m l.toArray (srtI l).toArray os hb hH (by simp [hp.length_eq])
    have hz := lt_sortWorld (Value.int .i64) w b off m (srtI l).toArray os hb
    exact ⟨rfl, kInt_plain.ofHolds (m := []) (fun _ => rfl) rfl (by rw [List.append_nil]; exact hH2) hz hSb (by rw [hn, hp.length_eq]) hnc (by rw [hp.length_eq]; omega) (fun x hx => hok x (hp.mem_iff.1 hx)), (putRow_kept (Value.int .i64) w b off m _ os).mono fun k hk => hk ▸ hSb⟩
theorem cloneIntA_k (l : List Int) (a : Option Addr) (n c : Nat) (S : Nat → Prop) (w : World) (h : (kRow kInt).is false w S [.slice a n c] l) (hl : l.length ≤ 2 ^ 20) (ha : ∀ x, a = some x → 0 < n → x.spot = none) :
    Calls Try.prog 42 #[.slice a n c] w fun e w' => ∃ a' c', e = .returned (.slice a' n c') ∧ (kRow kInt).is true w' (fun k => w.heap.size ≤ k) [.slice a' n c'] l ∧ Below w.heap.size w w' := by
  have hn := row_len h
  by_cases h0 : n = 0
  · subst h0
    have hl0 : l = [] := List.eq_nil_of_length_eq_zero hn.symm
    subst hl0
    cases a with
    | none =>
      refine (Any.slices_Clone_int_nil Try.laysTwo15 0 c w).mono ?_
      rintro e w' ⟨rfl, rfl⟩
      exact ⟨none, 0, rfl, row_nil _ _ _ _ _ _, Below.refl _ _⟩
    | some x =>
      refine (Any.slices_Clone_int_zero Try.laysTwo15 x c w).mono ?_
      rintro e w' ⟨v', rfl, ho, _, hb⟩
      have ho' : OwnL inC 3 1 w' w.heap.size v' [] := ho
      obtain ⟨a', c', rfl, _⟩ := ho'.form
      exact ⟨a', c', rfl, row_nil _ _ _ _ _ _, hb⟩
  · obtain ⟨x, hx⟩ : ∃ x, l[0]? = some x := ⟨_, List.getElem?_eq_getElem (by omega)⟩
    obtain ⟨b, o, rfl, _⟩ := rowI_at h hx
    exact cloneInt_k l b o n c S w h hl

/-- Below what is looked for. -/
def isA1 (s p : ByteArray) (l : List Nat) (k : Nat) : Bool := bl ((tx s).drop (l.getD k 0)) (tx p)
/-- Not above what is looked for. -/
def isA2 (s p : ByteArray) (l : List Nat) (k : Nat) : Bool := !bl (tx p) (stL (tx s) p.size (l.getD k 0))
/-- Where the places begin, and how often was asked. -/
def find1 (s p : ByteArray) (l : List Nat) : Nat × Nat := hal (isA1 s p l) 0 l.length
/-- Where they end, and how often was asked. -/
def find2 (s p : ByteArray) (l : List Nat) : Nat × Nat := hal (isA2 s p l) (find1 s p l).1 l.length
/-- The places that are found, in the order of endings. -/
def foundL (s p : ByteArray) (l : List Nat) : List Nat := (l.take (find2 s p l).1).drop (find1 s p l).1
/-- Whether the arguments are as said. -/
def fiGood (s : ByteArray) (l : List Int) (p : ByteArray) : Bool := isSx s l && decide (1 ≤ p.size ∧ p.size ≤ 120)
/-- FindIn. -/
def fFindIn (s : ByteArray) (l : List Int) (p : ByteArray) : List Int × Int × Bool := if fiGood s l p = true then (srtI (nts (foundL s p (sufL (tx s)))), (((find1 s p (sufL (tx s))).2 + (find2 s p (sufL (tx s))).2 : Nat) : Int), true) else ([], 0, false)
/-- What FindIn answers. -/
def RFindIn (x0 : ByteArray) (x1 : List Int) (x2 : ByteArray) (w : World) (e : Ending) (w' : World) : Prop := ∃ (a0 : Option Addr) (n0 c0 : Nat) (T0 : Nat → Prop), e = .returned (.tuple #[.slice a0 n0 c0, .int .i64 (fFindIn x0 x1 x2).2.1, .bool (fFindIn x0 x1 x2).2.2]) ∧ (kRow kInt).is true w' T0 [.slice a0 n0 c0] (fFindIn x0 x1 x2).1 ∧ (∀ k, T0 k → w.heap.size ≤ k) ∧ sums kInt.cnt (fFindIn x0 x1 x2).1 ≤ 2 ^ 26 ∧ IntOk (fFindIn x0 x1 x2).2.1 ∧ Below w.heap.size w w'
theorem find_bd (s p : ByteArray) (l : List Nat) : (find1 s p l).1 ≤ (find2 s p l).1 ∧ (find2 s p l).1 ≤ l.length ∧ (find1 s p l).2 ≤ l.length ∧ (find2 s p l).2 ≤ l.length := by
  have h1 := hal_bd (isA1 s p l) _ 0 l.length (Nat.le_refl _) (Nat.zero_le _)
  have h2 := hal_bd (isA2 s p l) _ (find1 s p l).1 l.length (Nat.le_refl _) h1.2.1
  unfold find2
  unfold find1 at h2 ⊢
  omega
theorem row_mid {w : World} {S : Nat → Prop} {b o n c : Nat} {l : List Int} (h : (kRow kInt).is false w S [.slice (some ⟨b, o, none⟩) n c] l) {i j : Nat} (hi : i ≤ j) (hj : j ≤ n) : (kRow kInt).is false w S [.slice (some ⟨b, o + i, none⟩) (j - i) (c - i)] ((l.take j).drop i) := by
  have h1 := row_take h hj
  exact row_dropA h1 hi
set_option maxRecDepth 100000 in
set_option maxHeartbeats 2000000 in
theorem implFindIn_k (x0 : ByteArray) (x1 : List Int) (a1 : Option Addr) (n1 c1 : Nat) (S1 : Nat → Prop) (x2 : ByteArray) (w : World) (h0 : x0.size ≤ 2 ^ 20) (h1 : (kRow kInt).is true w S1 [.slice a1 n1 c1] x1) (z1 : (kRow kInt).sz x1 ≤ 2 ^ 20) (h2 : x2.size ≤ 2 ^ 20) :
    Calls Try.prog 17 #[.string x0, .slice a1 n1 c1, .string x2] w (RFindIn x0 x1 x2 w) := by
  have hcap := row_cap h1
  replace h1 := (kRow kInt).read h1
  obtain ⟨W0, hW0⟩ : ∃ W0, W0 = ((w.alloc (.cells #[.string x0] 9)).alloc (.cells #[.slice a1 n1 c1] 24)).alloc (.cells #[.string x2] 9) := ⟨_, rfl⟩
  have hz : n1 ≤ 2 ^ 20 := by have := row_len h1; have : (kRow kInt).sz x1 = x1.length + sums kInt.sz x1 := rfl; omega
  have HB0 : Hid (Below w.heap.size w W0) := by show Below _ _ _; rw [hW0]; exact (((Below.refl _ _).alloc (Nat.le_refl _) _).alloc (by simp) _).alloc (by simp; omega) _
  have HH1 : (kRow kInt).is false W0 S1 [.slice a1 n1 c1] x1 := Kd.below h1 HB0.out
  have CC : W0.cell? ⟨w.heap.size, 0, none⟩ = some (.string x0) ∧ W0.cell? ⟨w.heap.size + 1, 0, none⟩ = some (.slice a1 n1 c1) ∧ W0.cell? ⟨w.heap.size + 1 + 1, 0, none⟩ = some (.string x2) := by rw [hW0]; simp [go_sem]
  obtain ⟨C1, C2, C3⟩ := CC
  have hcl := implIsSuffixes_k x0 x1 a1 n1 c1 S1 W0 h0 HH1 z1
  have H1 : Hid ((kRow kInt).is false W0 S1 [.slice a1 n1 c1] x1) := HH1
  have HW : Hid (W0 = ((w.alloc (.cells #[.string x0] 9)).alloc (.cells #[.slice a1 n1 c1] 24)).alloc (.cells #[.string x2] 9)) := hW0
  clear h1 z1 HH1 hW0
  go_enter Try.func17, Try.ntmps17
  go_wp2_with fail
  rw [← HW.out]
  refine hcl.mono ?_
  rintro e w1 ⟨rfl, hb⟩
  have HB1 : Hid (Below w.heap.size w w1) := HB0.out.trans (hb.mono HB0.out.size)
  have HI : Hid ((fIsSuffixes x0 x1).1 = isSx x0 x1) := rfl
  rw [HI.out]
  generalize (fIsSuffixes x0 x1).2 = q2 at *
  have D1 := (hb.cell (World.block_lt_of_cell? _ _ C1)).trans C1
  have D2 := (hb.cell (World.block_lt_of_cell? _ _ C2)).trans C2
  have D3 := (hb.cell (World.block_lt_of_cell? _ _ C3)).trans C3
  have HR1 : Hid ((kRow kInt).is false w1 S1 [.slice a1 n1 c1] x1) := Kd.below H1.out hb
  obtain ⟨g1, hg1⟩ : ∃ g1, g1 = w.heap.size := ⟨_, rfl⟩
  obtain ⟨g2, hg2⟩ : ∃ g2, g2 = w.heap.size + 1 := ⟨_, rfl⟩
  obtain ⟨g3, hg3⟩ : ∃ g3, g3 = w.heap.size + 1 + 1 := ⟨_, rfl⟩
  rw [← hg3] at D3 ⊢
  rw [← hg2] at D2 ⊢
  rw [← hg1] at D1 ⊢
  clear hg1 hg2 hg3 C1 C2 C3 HW hb hcl H1
  cases hq : isSx x0 x1 with
  | true =>
    obtain ⟨hs, hl⟩ := isSx_of hq
    by_cases hp1 : 1 ≤ x2.size
    · by_cases hp2 : x2.size ≤ 120
      · have e1 : ¬ (x2.size : Int) < 1 := by omega
        have e2 : ¬ (120 : Int) < (x2.size : Int) := by omega
        have f1 : decide ((x2.size : Int) < 1) = false := decide_eq_false e1
        have f2 : decide ((120 : Int) < (x2.size : Int)) = false := decide_eq_false e2
        have HF : Hid (fFindIn x0 x1 x2 = (srtI (nts (foundL x0 x2 (sufL (tx x0)))), (((find1 x0 x2 (sufL (tx x0))).2 + (find2 x0 x2 (sufL (tx x0))).2 : Nat) : Int), true)) := by
          show _ = _
          unfold fFindIn
          rw [if_pos (by unfold fiGood; rw [hq]; simp [hp1, hp2])]
        rw [hl] at HR1
        have HSL : Hid (∀ x ∈ sufL (tx x0), x ≤ x0.size) := suf_le x0
        have hbd := find_bd x0 x2 (sufL (tx x0))
        have hle : (sufL (tx x0)).length = x0.size := by rw [sufL_len, tx_len]
        have hn1 : n1 = (sufL (tx x0)).length := by have := row_len HR1.out; rw [nts_len] at this; exact this
        obtain ⟨l, hll⟩ : ∃ l, l = sufL (tx x0) := ⟨_, rfl⟩
        rw [← hll] at HF HR1 HSL hbd hle hn1
        clear hl hq hll
        rw [hle] at hn1 hbd
        have HLE : Hid (l.length = n1) := by show _ = _; rw [hle, hn1]
        rw [← hn1] at hbd
        have hn120 : n1 ≤ 120 := by omega
        have hc1 := firstNot1_k (isA1 x0 x2 l) 0 n1 g1 g2 g3 w1 (Nat.zero_le _) hz (fun k W hk hW => ahead1_k x0 x2 l a1 n1 c1 S1 g1 g2 g3 k W (Kd.below HR1.out hW) ((hW.cell (World.block_lt_of_cell? _ _ D1)).trans D1) ((hW.cell (World.block_lt_of_cell? _ _ D2)).trans D2) ((hW.cell (World.block_lt_of_cell? _ _ D3)).trans D3) hk HSL.out hz)
        have HE1 : Hid (hal (isA1 x0 x2 l) 0 n1 = find1 x0 x2 l) := by show _ = _; unfold find1; rw [HLE.out]
        rw [HE1.out] at hc1
        have hc2 : Hid (∀ W, Below w1.heap.size w1 W → Calls Try.prog 39 #[.int .i64 (find1 x0 x2 l).1, .int .i64 n1, .func (.func 41) #[] #[.pointer (some ⟨g1, 0, none⟩), .pointer (some ⟨g2, 0, none⟩), .pointer (some ⟨g3, 0, none⟩)]] W fun e w' => e = .returned (.tuple #[.int .i64 (find2 x0 x2 l).1, .int .i64 (find2 x0 x2 l).2]) ∧ Below W.heap.size W w') := fun V hV => by
          have hE2 : hal (isA2 x0 x2 l) (find1 x0 x2 l).1 n1 = find2 x0 x2 l := by unfold find2; rw [HLE.out]
          rw [← hE2]
          exact firstNot2_k (isA2 x0 x2 l) (find1 x0 x2 l).1 n1 g1 g2 g3 V (by omega) hz (fun k W hk hW => by
            have hW2 : Below w1.heap.size w1 W := hV.trans (hW.mono hV.size)
            exact ahead2_k x0 x2 l a1 n1 c1 S1 g1 g2 g3 k W (Kd.below HR1.out hW2) ((hW2.cell (World.block_lt_of_cell? _ _ D1)).trans D1) ((hW2.cell (World.block_lt_of_cell? _ _ D2)).trans D2) ((hW2.cell (World.block_lt_of_cell? _ _ D3)).trans D3) hk HSL.out hz h2 h0)
        have HFL : Hid (nts (foundL x0 x2 l) = ((nts l).take (find2 x0 x2 l).1).drop (find1 x0 x2 l).1) := by
          show _ = _
          unfold foundL
          rw [← nts_drop, ← nts_take]
        obtain ⟨i, hi⟩ : ∃ i, i = (find1 x0 x2 l).1 := ⟨_, rfl⟩
        obtain ⟨s1, hs1⟩ : ∃ i, i = (find1 x0 x2 l).2 := ⟨_, rfl⟩
        obtain ⟨j, hj⟩ : ∃ i, i = (find2 x0 x2 l).1 := ⟨_, rfl⟩
        obtain ⟨s2, hs2⟩ : ∃ i, i = (find2 x0 x2 l).2 := ⟨_, rfl⟩
        rw [← hs1] at hc1 HF hbd
        rw [← hs2] at hc2 HF hbd
        rw [← hj] at hc2 HFL hbd
        rw [← hi] at hc1 hc2 HFL hbd
        obtain ⟨b1, b2, b3, b4⟩ := hbd
        clear hi hs1 hj hs2 hle hn1 HE1
        go_wp2_with fail
        refine hc1.mono ?_
        rintro e w2 ⟨rfl, hb2⟩
        have HB2 : Hid (Below w1.heap.size w1 w2) := hb2
        have E2 := (hb2.cell (World.block_lt_of_cell? _ _ D2)).trans D2
        clear hc1 hb2
        go_wp2_with fail
        refine (hc2.out w2 HB2.out).mono ?_
        rintro e w3 ⟨rfl, hb3⟩
        have HB3 : Hid (Below w1.heap.size w1 w3) := HB2.out.trans (hb3.mono HB2.out.size)
        have F2 := (hb3.cell (World.block_lt_of_cell? _ _ E2)).trans E2
        clear hb3 hc2
        have HFN : Hid ((foundL x0 x2 l).length ≤ 120) := by
          show _ ≤ _
          unfold foundL
          rw [List.length_drop, List.length_take, HLE.out]
          omega
        have HCN : Hid (sums kInt.cnt (srtI (nts (foundL x0 x2 l))) ≤ 2 ^ 26) := by
          show _ ≤ _
          rw [cnt_ints, show (srtI (nts (foundL x0 x2 l))).length = (nts (foundL x0 x2 l)).length from (List.mergeSort_perm _ _).length_eq, nts_len]
          have := HFN.out
          omega
        have HR3 : Hid ((kRow kInt).is false w3 S1 [.slice a1 n1 c1] (nts l)) := Kd.below HR1.out HB3.out
        by_cases hz0 : n1 = 0
        · obtain rfl : i = 0 := by omega
          obtain rfl : j = 0 := by omega
          subst hz0
          have HFE : Hid (nts (foundL x0 x2 l) = []) := by show _ = _; rw [HFL.out]; simp
          cases a1 with
          | none =>
            have HM : Hid ((kRow kInt).is false w3 S1 [.slice none 0 c1] (nts (foundL x0 x2 l))) := by show (kRow kInt).is _ _ _ _ _; rw [HFE.out]; exact row_nil _ _ _ _ _ _
            have hc4 := cloneIntA_k (nts (foundL x0 x2 l)) none (0) (c1) S1 w3 HM.out (by rw [nts_len]; have := HFN.out; omega) (fun x hx hpos => by first | (injection hx with hx; rw [← hx]) | cases hx)
            go_wp2_with fail
            refine hc4.mono ?_
            rintro e w4 ⟨a4, c4, rfl, hr4, hb4⟩
            have HR4 : Hid ((kRow kInt).is true w4 (fun k => w3.heap.size ≤ k) [.slice a4 (0) c4] (nts (foundL x0 x2 l))) := hr4
            have HB4 : Hid (Below w1.heap.size w1 w4) := HB3.out.trans (hb4.mono HB3.out.size)
            have hc5 := sortInt_k (nts (foundL x0 x2 l)) a4 (0) c4 _ w4 hr4 (by rw [nts_len]; have := HFN.out; omega)
            have z4 := hb4.size
            clear hc4 hr4 hb4
            go_wp2_with fail
            refine hc5.mono ?_
            rintro e w5 ⟨rfl, hr5, hk5⟩
            have HR5 : Hid ((kRow kInt).is true w5 (fun k => w3.heap.size ≤ k) [.slice a4 (0) c4] (srtI (nts (foundL x0 x2 l)))) := hr5
            have HB5 : Hid (Below w.heap.size w w5) := HB1.out.trans ((HB4.out.mono HB1.out.size).trans (hk5.below (by have := HB4.out.size; have := HB1.out.size; omega) (fun q hq e => by have := HB3.out.size; have := HB1.out.size; omega)))
            clear hc5 hr5 hk5
            go_wp2
            refine bodyPost_ret (v := .tuple #[.slice a4 (0) c4, .int .i64 ((s1 : Int) + (s2 : Int)), .bool true]) (by simp [results, Try.results17, go_sem]) rfl ?_
            unfold RFindIn
            rw [HF.out]
            exact ⟨_, _, _, _, by simp, HR5.out, fun k hk => by have := HB3.out.size; have := HB1.out.size; omega, HCN.out, by unfold IntOk; simp only; omega, HB5.out⟩
          | some x =>
            have HMA : Hid (∀ a c, (kRow kInt).is false w3 S1 [.slice a 0 c] (nts (foundL x0 x2 l))) := fun a c => by rw [HFE.out]; exact row_nil _ _ _ _ _ _
            go_wp2_with fail
            refine (cloneIntA_k (nts (foundL x0 x2 l)) _ 0 _ S1 w3 (HMA.out _ _) (by rw [nts_len]; have := HFN.out; omega) (fun x hx hpos => absurd hpos (by omega))).mono ?_
            rintro e w4 ⟨a4, c4, rfl, hr4, hb4⟩
            have HR4 : Hid ((kRow kInt).is true w4 (fun k => w3.heap.size ≤ k) [.slice a4 (0) c4] (nts (foundL x0 x2 l))) := hr4
            have HB4 : Hid (Below w1.heap.size w1 w4) := HB3.out.trans (hb4.mono HB3.out.size)
            have hc5 := sortInt_k (nts (foundL x0 x2 l)) a4 (0) c4 _ w4 hr4 (by rw [nts_len]; have := HFN.out; omega)
            have z4 := hb4.size
            clear hr4 hb4
            go_wp2_with fail
            refine hc5.mono ?_
            rintro e w5 ⟨rfl, hr5, hk5⟩
            have HR5 : Hid ((kRow kInt).is true w5 (fun k => w3.heap.size ≤ k) [.slice a4 (0) c4] (srtI (nts (foundL x0 x2 l)))) := hr5
            have HB5 : Hid (Below w.heap.size w w5) := HB1.out.trans ((HB4.out.mono HB1.out.size).trans (hk5.below (by have := HB4.out.size; have := HB1.out.size; omega) (fun q hq e => by have := HB3.out.size; have := HB1.out.size; omega)))
            clear hc5 hr5 hk5
            go_wp2
            refine bodyPost_ret (v := .tuple #[.slice a4 (0) c4, .int .i64 ((s1 : Int) + (s2 : Int)), .bool true]) (by simp [results, Try.results17, go_sem]) rfl ?_
            unfold RFindIn
            rw [HF.out]
            exact ⟨_, _, _, _, by simp, HR5.out, fun k hk => by have := HB3.out.size; have := HB1.out.size; omega, HCN.out, by unfold IntOk; simp only; omega, HB5.out⟩
        · obtain ⟨x, hx⟩ : ∃ x, (nts l)[0]? = some x := ⟨_, List.getElem?_eq_getElem (by rw [nts_len, HLE.out]; omega)⟩
          obtain ⟨b, o, rfl, _⟩ := rowI_at HR3.out hx
          clear hx
          have k0 : (0 : Int) ≤ (i : Int) := by omega
          have k1 : (i : Int) ≤ (j : Int) := by omega
          have k2 : (j : Int) ≤ (c1 : Int) := by omega
          by_cases hic : i < c1
          · have HM : Hid ((kRow kInt).is false w3 S1 [.slice (some ⟨b, o + i, none⟩) (j - i) (c1 - i)] (nts (foundL x0 x2 l))) := by show (kRow kInt).is _ _ _ _ _; rw [HFL.out]; exact row_mid HR3.out b1 b2
            have hc4 := cloneIntA_k (nts (foundL x0 x2 l)) (some ⟨b, o + i, none⟩) (j - i) (c1 - i) S1 w3 HM.out (by rw [nts_len]; have := HFN.out; omega) (fun x hx hpos => by first | (injection hx with hx; rw [← hx]) | cases hx)
            go_wp2_with fail
            refine hc4.mono ?_
            rintro e w4 ⟨a4, c4, rfl, hr4, hb4⟩
            have HR4 : Hid ((kRow kInt).is true w4 (fun k => w3.heap.size ≤ k) [.slice a4 (j - i) c4] (nts (foundL x0 x2 l))) := hr4
            have HB4 : Hid (Below w1.heap.size w1 w4) := HB3.out.trans (hb4.mono HB3.out.size)
            have hc5 := sortInt_k (nts (foundL x0 x2 l)) a4 (j - i) c4 _ w4 hr4 (by rw [nts_len]; have := HFN.out; omega)
            have z4 := hb4.size
            clear hc4 hr4 hb4
            go_wp2_with fail
            refine hc5.mono ?_
            rintro e w5 ⟨rfl, hr5, hk5⟩
            have HR5 : Hid ((kRow kInt).is true w5 (fun k => w3.heap.size ≤ k) [.slice a4 (j - i) c4] (srtI (nts (foundL x0 x2 l)))) := hr5
            have HB5 : Hid (Below w.heap.size w w5) := HB1.out.trans ((HB4.out.mono HB1.out.size).trans (hk5.below (by have := HB4.out.size; have := HB1.out.size; omega) (fun q hq e => by have := HB3.out.size; have := HB1.out.size; omega)))
            clear hc5 hr5 hk5
            go_wp2
            refine bodyPost_ret (v := .tuple #[.slice a4 (j - i) c4, .int .i64 ((s1 : Int) + (s2 : Int)), .bool true]) (by simp [results, Try.results17, go_sem]) rfl ?_
            unfold RFindIn
            rw [HF.out]
            exact ⟨_, _, _, _, by simp, HR5.out, fun k hk => by have := HB3.out.size; have := HB1.out.size; omega, HCN.out, by unfold IntOk; simp only; omega, HB5.out⟩
          · obtain rfl : i = c1 := by omega
            obtain rfl : j = i := by omega
            have HM : Hid ((kRow kInt).is false w3 S1 [.slice (some ⟨b, o, none⟩) 0 0] (nts (foundL x0 x2 l))) := by
              show (kRow kInt).is _ _ _ _ _
              rw [HFL.out, show ((nts l).take j).drop j = [] by rw [List.drop_eq_nil_of_le (by rw [List.length_take]; omega)]]
              exact row_nil _ _ _ _ _ _
            have hc4 := cloneIntA_k (nts (foundL x0 x2 l)) (some ⟨b, o, none⟩) (0) (0) S1 w3 HM.out (by rw [nts_len]; have := HFN.out; omega) (fun x hx hpos => by first | (injection hx with hx; rw [← hx]) | cases hx)
            go_wp2_with fail
            refine hc4.mono ?_
            rintro e w4 ⟨a4, c4, rfl, hr4, hb4⟩
            have HR4 : Hid ((kRow kInt).is true w4 (fun k => w3.heap.size ≤ k) [.slice a4 (0) c4] (nts (foundL x0 x2 l))) := hr4
            have HB4 : Hid (Below w1.heap.size w1 w4) := HB3.out.trans (hb4.mono HB3.out.size)
            have hc5 := sortInt_k (nts (foundL x0 x2 l)) a4 (0) c4 _ w4 hr4 (by rw [nts_len]; have := HFN.out; omega)
            have z4 := hb4.size
            clear hc4 hr4 hb4
            go_wp2_with fail
            refine hc5.mono ?_
            rintro e w5 ⟨rfl, hr5, hk5⟩
            have HR5 : Hid ((kRow kInt).is true w5 (fun k => w3.heap.size ≤ k) [.slice a4 (0) c4] (srtI (nts (foundL x0 x2 l)))) := hr5
            have HB5 : Hid (Below w.heap.size w w5) := HB1.out.trans ((HB4.out.mono HB1.out.size).trans (hk5.below (by have := HB4.out.size; have := HB1.out.size; omega) (fun q hq e => by have := HB3.out.size; have := HB1.out.size; omega)))
            clear hc5 hr5 hk5
            go_wp2
            refine bodyPost_ret (v := .tuple #[.slice a4 (0) c4, .int .i64 ((s1 : Int) + (s2 : Int)), .bool true]) (by simp [results, Try.results17, go_sem]) rfl ?_
            unfold RFindIn
            rw [HF.out]
            exact ⟨_, _, _, _, by simp, HR5.out, fun k hk => by have := HB3.out.size; have := HB1.out.size; omega, HCN.out, by unfold IntOk; simp only; omega, HB5.out⟩
      · have e1 : ¬ (x2.size : Int) < 1 := by omega
        have e2 : (120 : Int) < (x2.size : Int) := by omega
        have f1 : decide ((x2.size : Int) < 1) = false := decide_eq_false e1
        have f2 : decide ((120 : Int) < (x2.size : Int)) = true := decide_eq_true e2
        have HF : Hid (fFindIn x0 x1 x2 = ([], 0, false)) := by show _ = _; unfold fFindIn fiGood; rw [decide_eq_false (by omega)]; simp
        clear hq hl
        go_wp2
        refine bodyPost_ret (v := .tuple #[.slice none 0 0, .int .i64 0, .bool false]) (by simp [results, Try.results17, go_sem]) rfl ?_
        unfold RFindIn
        rw [HF.out]
        exact ⟨none, 0, 0, fun _ => False, rfl, row_nil _ _ _ _ _ _, fun k hk => hk.elim, by simp [sums], by unfold IntOk; simp only; omega, HB1.out⟩
    · have e1 : (x2.size : Int) < 1 := by omega
      have f1 : decide ((x2.size : Int) < 1) = true := decide_eq_true e1
      have HF : Hid (fFindIn x0 x1 x2 = ([], 0, false)) := by show _ = _; unfold fFindIn fiGood; rw [decide_eq_false (by omega)]; simp
      clear hq hl
      go_wp2
      refine bodyPost_ret (v := .tuple #[.slice none 0 0, .int .i64 0, .bool false]) (by simp [results, Try.results17, go_sem]) rfl ?_
      unfold RFindIn
      rw [HF.out]
      exact ⟨none, 0, 0, fun _ => False, rfl, row_nil _ _ _ _ _ _, fun k hk => hk.elim, by simp [sums], by unfold IntOk; simp only; omega, HB1.out⟩
  | false =>
    have HF : Hid (fFindIn x0 x1 x2 = ([], 0, false)) := by show _ = _; unfold fFindIn fiGood; rw [hq]; simp
    clear hq
    go_wp2
    refine bodyPost_ret (v := .tuple #[.slice none 0 0, .int .i64 0, .bool false]) (by simp [results, Try.results17, go_sem]) rfl ?_
    unfold RFindIn
    rw [HF.out]
    exact ⟨none, 0, 0, fun _ => False, rfl, row_nil _ _ _ _ _ _, fun k hk => hk.elim, by simp [sums], by unfold IntOk; simp only; omega, HB1.out⟩
end Go.Proofs.Ytkboblfjchkedaa
