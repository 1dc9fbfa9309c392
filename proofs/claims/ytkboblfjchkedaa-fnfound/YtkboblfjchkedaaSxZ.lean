/- RankOf: the ranks of endings in their order, and the program's. No condition but that a text fits in memory. -/
import Derived.Test.YtkboblfjchkedaaSxY
namespace Go.Proofs.Ytkboblfjchkedaa
open Go.RowKit Go.Sort
set_option linter.unusedVariables false

theorem suf_at_lt {t : List UInt8} {p q i j : Nat} (hi : (sufL t)[p]? = some i) (hj : (sufL t)[q]? = some j) : p < q ↔ ltE t i j = true := ris_lt (ltE_irr t) ltE_trans (sufL_ris t) hi hj
theorem suf_pos {t : List UInt8} {i : Nat} (h : i < t.length) : ∃ p : Nat, (sufL t)[p]? = some i := List.getElem?_of_mem (sufL_mem.2 h)
theorem suf_lt {t : List UInt8} {p i : Nat} (h : (sufL t)[p]? = some i) : i < t.length := sufL_mem.1 (List.mem_of_getElem? h)
/-- The first ending has the least rank. -/
theorem rank_first {t : List UInt8} {K i : Nat} (h : (sufL t)[0]? = some i) : rkS t K i = 0 := by
  have hR := rkS_rank t K
  have hi := suf_lt h
  rcases Nat.eq_zero_or_pos (rkS t K i) with e | e
  · exact e
  · obtain ⟨j, hj, ej⟩ := hR.2 i hi 0 e
    have h1 := (hR.1 j i hj hi).1 (by omega)
    have h2 : ltE t j i = true := bl_take K h1
    obtain ⟨q, hq⟩ := suf_pos hj
    have := (suf_at_lt hq h).2 h2
    omega
/-- The next one has the same rank, or the next. -/
theorem rank_next {t : List UInt8} {K p i j : Nat} (hi : (sufL t)[p]? = some i) (hj : (sufL t)[p + 1]? = some j) : rkS t K j = if stL t K j = stL t K i then rkS t K i else rkS t K i + 1 := by
  have hR := rkS_rank t K
  have hil := suf_lt hi
  have hjl := suf_lt hj
  split
  · next e => exact (rkS_same hjl hil).2 e
  · next e =>
    have h1 : ltE t i j = true := (suf_at_lt hi hj).1 (by omega)
    have h2 : bl (stL t K i) (stL t K j) = true := by
      rcases (bl_split K (t.drop i) (t.drop j)).1 h1 with h | ⟨h, _⟩
      · exact h
      · exact absurd h.symm e
    have h3 := (hR.1 i j hil hjl).2 h2
    rcases Nat.lt_or_ge (rkS t K i + 1) (rkS t K j) with h4 | h4
    · obtain ⟨m, hm, em⟩ := hR.2 j hjl (rkS t K i + 1) h4
      obtain ⟨q, hq⟩ := suf_pos hm
      have a1 := (suf_at_lt hi hq).2 (bl_take K ((hR.1 i m hil hm).1 (by omega)))
      have a2 := (suf_at_lt hq hj).2 (bl_take K ((hR.1 m j hm hjl).1 (by omega)))
      omega
    · omega

/-- Whether the arguments are as said. -/
def rkGood (s : ByteArray) (k d : Int) : Bool := decide (s.size ≤ 120) && decide (1 ≤ k ∧ k ≤ 120) && decide (0 ≤ d ∧ d ≤ 1)
/-- By how many bytes. -/
def rkK (k d : Int) : Nat := if d = 1 then 2 * k.toNat else k.toNat
/-- All ranks. -/
def rkAll (t : List UInt8) (K : Nat) : List Nat := (List.range t.length).map (rkS t K)
/-- RankOf. -/
def fRankOf (s : ByteArray) (k d : Int) : List Int × Bool := if rkGood s k d = true then (nts (rkAll (tx s) (rkK k d)), true) else ([], false)
/-- What RankOf answers. -/
def RRankOf (x0 : ByteArray) (x1 : Int) (x2 : Int) (w : World) (e : Ending) (w' : World) : Prop := ∃ (a0 : Option Addr) (n0 c0 : Nat) (T0 : Nat → Prop), e = .returned (.tuple #[.slice a0 n0 c0, .bool (fRankOf x0 x1 x2).2]) ∧ (kRow kInt).is true w' T0 [.slice a0 n0 c0] (fRankOf x0 x1 x2).1 ∧ (∀ k, T0 k → w.heap.size ≤ k) ∧ sums kInt.cnt (fRankOf x0 x1 x2).1 ≤ 2 ^ 26 ∧ Below w.heap.size w w'
theorem rkAll_len (t : List UInt8) (K : Nat) : (rkAll t K).length = t.length := by simp [rkAll]
theorem rkAll_cnt (s : ByteArray) (K : Nat) (h : s.size ≤ 120) : sums kInt.cnt (nts (rkAll (tx s) K)) ≤ 2 ^ 26 := by
  rw [cnt_ints, nts_len, rkAll_len, tx_len]
  omega
theorem rkAll_ok (s : ByteArray) (K : Nat) (h : s.size ≤ 120) : ∀ x ∈ nts (rkAll (tx s) K), IntOk x := nts_ok fun k hk => by
  obtain ⟨i, hi, rfl⟩ := List.mem_map.1 hk
  have := rkS_lt (tx s) K i (by simpa using hi)
  rw [tx_len] at this
  omega
theorem in_flat (l : List Int) : l.flatMap inC = l.map (Value.int .i64) := by
  induction l with
  | nil => rfl
  | cons x l ih => rw [List.flatMap_cons, ih]; rfl
theorem cloneInt_k (l : List Int) (b off n c : Nat) (S : Nat → Prop) (w : World) (h : (kRow kInt).is false w S [.slice (some ⟨b, off, none⟩) n c] l) (hl : l.length ≤ 2 ^ 20) :
    Calls Try.prog 42 #[.slice (some ⟨b, off, none⟩) n c] w fun e w' => ∃ a' c', e = .returned (.slice a' n c') ∧ (kRow kInt).is true w' (fun k => w.heap.size ≤ k) [.slice a' n c'] l ∧ Below w.heap.size w w' := by
  have hn := row_len h
  have hok := kInt_plain.oks h
  refine (Any.slices_Clone_int Try.laysTwo15 b off n c l w (by omega) (by omega) (row_ints h)).mono ?_
  rintro e w' ⟨v', rfl, ho, _, hb⟩
  have ho' : OwnL inC 3 1 w' w.heap.size v' l := by
    unfold OwnL
    rw [List.take_of_length_le (by omega), ← in_flat] at ho
    rw [← hn]
    exact ho
  obtain ⟨a', c', rfl, _⟩ := ho'.form
  rw [← hn]
  rw [← hn] at ho'
  exact ⟨a', c', rfl, kInt_plain.own ho' (by omega) hok, hb⟩
theorem rk_row {w : World} {g n : Nat} {r : Nat → Nat} (hg : w.heap[g]? = some (.cells (rkA r n) 53)) (hn : n ≤ 120) (hr : ∀ i, i < n → r i ≤ 2 ^ 30) : (kRow kInt).is false w (fun k => k = g) [.slice (some ⟨g, 0, none⟩) n 120] (nts ((List.range n).map r)) := by
  have hb : g < w.heap.size := (Array.getElem?_eq_some_iff.1 hg).1
  refine (kRow kInt).read (kInt_plain.shut (fun j z hz q u hu => ?_) hb rfl (by simp [nts]) hn (by simp [nts]; omega) ?_)
  · have hj : j < n := by have := (List.getElem?_eq_some_iff.1 hz).1; simpa [nts] using this
    have hz' : ((r j : Nat) : Int) = z := by simpa [nts, hj] using hz
    have hq : q = 0 := by
      have := (List.getElem?_eq_some_iff.1 hu).1
      rw [kInt_plain.wd] at this
      have : q < 1 := this
      omega
    subst hq hz'
    have hu' : Value.int .i64 ((r j : Nat) : Int) = u := by simpa [inC] using hu
    subst hu'
    have hwd : kInt.wd = 1 := rfl
    rw [hwd, show 0 + j * 1 + 0 = j by omega, cell_of_row _ _ _ _ _ _ hg, rkA_at (by omega), if_pos hj]
    exact ⟨rfl, by simp [World.frozen?, hg]⟩
  · refine nts_ok fun k hk => ?_
    obtain ⟨i, hi, rfl⟩ := List.mem_map.1 hk
    have := hr i (by simpa using hi)
    omega
theorem rkGood_of {s : ByteArray} {k d : Int} (h : rkGood s k d = true) : s.size ≤ 120 ∧ ∃ K : Nat, k = (K : Int) ∧ 1 ≤ K ∧ K ≤ 120 ∧ (d = 0 ∨ d = 1) := by
  unfold rkGood at h
  simp only [Bool.and_eq_true, decide_eq_true_eq] at h
  obtain ⟨⟨h1, h2⟩, h3⟩ := h
  exact ⟨h1, k.toNat, by omega, by omega, by omega, by omega⟩
set_option maxRecDepth 100000 in
set_option maxHeartbeats 4000000 in
theorem implRankOf_k (x0 : ByteArray) (x1 : Int) (x2 : Int) (w : World) (h0 : x0.size ≤ 2 ^ 20) (h1 : IntOk x1) (h2 : IntOk x2) :
    Calls Try.prog 20 #[.string x0, .int .i64 x1, .int .i64 x2] w (RRankOf x0 x1 x2 w) := by
  by_cases hg : rkGood x0 x1 x2 = true
  · obtain ⟨hs, k, rfl, hk1, hk2, hd⟩ := rkGood_of hg
    obtain ⟨zv, zs⟩ := zero_of_info info_pr
    obtain ⟨Z, hZ⟩ : ∃ Z : Array Value, Z = Array.replicate 120 (.int .i64 0) := ⟨_, rfl⟩
    rw [← hZ] at zv
    have HZ : Hid (Z.size = 120) := by show _ = _; rw [hZ]; simp
    have HZS : Hid ((Try.prog.info? 53).map (·.size) = some 120) := zs
    have e0 : ¬ (120 : Int) < (x0.size : Int) := by omega
    have e1 : ¬ (k : Int) < 1 := by omega
    have e2 : ¬ (120 : Int) < (k : Int) := by omega
    have f0 : decide ((120 : Int) < (x0.size : Int)) = false := decide_eq_false e0
    have f1 : decide ((k : Int) < 1) = false := decide_eq_false e1
    have f2 : decide ((120 : Int) < (k : Int)) = false := decide_eq_false e2
    have hcl := ranksBy_k x0 k w hs (by omega)
    have HN : Hid (x0.size = (tx x0).length) := rfl
    have HRK : Hid (∀ K i, i < x0.size → rkS (tx x0) K i ≤ 2 ^ 20) := fun K i hi => by have := rkS_lt (tx x0) K i hi; rw [tx_len] at this; omega
    rcases hd with rfl | rfl
    · have HF : Hid (fRankOf x0 k 0 = (nts (rkAll (tx x0) k), true)) := by show _ = _; unfold fRankOf; rw [if_pos hg]; simp [rkK]
      clear hZ zs hg h1 h2
      go_enter Try.func20, Try.ntmps20
      go_wp2_with fail
      refine hcl.mono ?_
      rintro e w1 ⟨rfl, hb1⟩
      have HB1 : Hid (Below w.heap.size w w1) := hb1
      have z1 := hb1.size
      obtain ⟨g, hg5⟩ : ∃ g, g = w1.heap.size := ⟨_, rfl⟩
      have hA : (w1.alloc (.cells Z 53)).heap[g]? = some (.cells Z 53) := by rw [hg5]; exact heap_alloc_last _ _
      have hsc := store_whole hA HZS.out HZ.out (rkA_ok (rkS (tx x0) k) x0.size).1 (rkA_ok _ _).2
      obtain ⟨W3, hW3⟩ : ∃ W3, W3 = (w1.alloc (.cells Z 53)).setRow g (rkA (rkS (tx x0) k) x0.size) := ⟨_, rfl⟩
      have HG : Hid (W3.heap[g]? = some (.cells (rkA (rkS (tx x0) k) x0.size) 53)) := by show _ = _; rw [hW3]; exact set_row_same hA
      have HB3 : Hid (Below w.heap.size w W3) := by
        show Below _ _ _
        rw [hW3]
        exact ((hb1.trans ((below_a1r _ _).mono z1))).trans ((set_row_kept _ g _).below (by simp; omega) (fun q hq e => by omega))
      have zg : w.heap.size ≤ g := by omega
      rw [← hW3, hg5] at hsc
      have HRR : Hid (rkA (rkS (tx x0) k) x0.size = rkA (rkS (tx x0) k) x0.size) := rfl
      obtain ⟨R1, hR1⟩ : ∃ R1, R1 = rkA (rkS (tx x0) k) x0.size := ⟨_, rfl⟩
      have r1 : R1.size = 120 := by rw [hR1]; exact rkA_size _ _
      have HR1 : Hid (R1 = rkA (rkS (tx x0) k) x0.size) := hR1
      rw [← hR1] at hsc HG ⊢
      clear hcl hb1 hA hW3 hR1 z1 HRR
      have HROW : Hid ((kRow kInt).is false W3 (fun q => q = g) [.slice (some ⟨g, 0, none⟩) x0.size 120] (nts (rkAll (tx x0) k))) := rk_row (by rw [← HR1.out]; exact HG.out) hs (fun i hi => by have := HRK.out k i hi; omega)
      have hc3 := cloneInt_k (nts (rkAll (tx x0) k)) g 0 x0.size 120 (fun q => q = g) W3 HROW.out (by rw [nts_len, rkAll_len, tx_len]; omega)
      have k0 : (x0.size : Int) ≤ 120 := by omega
      go_wp2_with fail
      rw [← hg5]
      refine hc3.mono ?_
      rintro e w6 ⟨a6, c6, rfl, hr6, hb6⟩
      have HR6 : Hid ((kRow kInt).is true w6 (fun q => W3.heap.size ≤ q) [.slice a6 x0.size c6] (nts (rkAll (tx x0) k))) := hr6
      have HB6 : Hid (Below w.heap.size w w6) := HB3.out.trans (hb6.mono HB3.out.size)
      have HC : Hid (sums kInt.cnt (nts (rkAll (tx x0) k)) ≤ 2 ^ 26) := rkAll_cnt x0 _ hs
      clear hr6 hb6 hc3
      go_wp2
      refine bodyPost_ret (v := .tuple #[.slice a6 x0.size c6, .bool true]) (by simp [results, Try.results20, go_sem]) rfl ?_
      unfold RRankOf
      rw [HF.out]
      exact ⟨_, _, _, _, rfl, HR6.out, fun q hq => Nat.le_trans HB3.out.size hq, HC.out, HB6.out⟩
    · have HF : Hid (fRankOf x0 k 1 = (nts (rkAll (tx x0) (2 * k)), true)) := by show _ = _; unfold fRankOf; rw [if_pos hg]; simp [rkK]
      clear hZ zs hg h1 h2
      go_enter Try.func20, Try.ntmps20
      go_wp2_with fail
      refine hcl.mono ?_
      rintro e w1 ⟨rfl, hb1⟩
      have HB1 : Hid (Below w.heap.size w w1) := hb1
      have z1 := hb1.size
      obtain ⟨g, hg5⟩ : ∃ g, g = w1.heap.size := ⟨_, rfl⟩
      have hA : (w1.alloc (.cells Z 53)).heap[g]? = some (.cells Z 53) := by rw [hg5]; exact heap_alloc_last _ _
      have hsc := store_whole hA HZS.out HZ.out (rkA_ok (rkS (tx x0) k) x0.size).1 (rkA_ok _ _).2
      obtain ⟨W3, hW3⟩ : ∃ W3, W3 = (w1.alloc (.cells Z 53)).setRow g (rkA (rkS (tx x0) k) x0.size) := ⟨_, rfl⟩
      have HG : Hid (W3.heap[g]? = some (.cells (rkA (rkS (tx x0) k) x0.size) 53)) := by show _ = _; rw [hW3]; exact set_row_same hA
      have HB3 : Hid (Below w.heap.size w W3) := by
        show Below _ _ _
        rw [hW3]
        exact ((hb1.trans ((below_a1r _ _).mono z1))).trans ((set_row_kept _ g _).below (by simp; omega) (fun q hq e => by omega))
      have zg : w.heap.size ≤ g := by omega
      rw [← hW3, hg5] at hsc
      have HRR : Hid (rkA (rkS (tx x0) k) x0.size = rkA (rkS (tx x0) k) x0.size) := rfl
      obtain ⟨R1, hR1⟩ : ∃ R1, R1 = rkA (rkS (tx x0) k) x0.size := ⟨_, rfl⟩
      have r1 : R1.size = 120 := by rw [hR1]; exact rkA_size _ _
      have HR1 : Hid (R1 = rkA (rkS (tx x0) k) x0.size) := hR1
      rw [← hR1] at hsc HG ⊢
      clear hcl hb1 hA hW3 hR1 z1 HRR
      have hld := load_whole HG.out HZS.out r1
      have hc2 := doubled_k x0.size k (rkS (tx x0) k) W3 hs (by omega) (HRK.out k)
      have HD : Hid (rkA (rkP ((List.range x0.size).map (prR x0.size k (rkS (tx x0) k)))) x0.size = rkA (rkS (tx x0) (2 * k)) x0.size) := rkA_ext fun i hi => rkP_is (t := tx x0) hk1 i hi
      rw [HD.out, ← HR1.out] at hc2
      obtain ⟨R2, hR2⟩ : ∃ R2, R2 = rkA (rkS (tx x0) (2 * k)) x0.size := ⟨_, rfl⟩
      have r2 : R2.size = 120 := by rw [hR2]; exact rkA_size _ _
      have HR2 : Hid (R2 = rkA (rkS (tx x0) (2 * k)) x0.size) := hR2
      have HRo : Hid (R2.all (·.oneCell') = true) := by show _ = _; rw [hR2]; exact rkA_one _ _
      rw [← hR2] at hc2
      clear hR2 HD
      go_wp2_with fail
      rw [← hg5]
      clear hsc hg5
      refine wp_load rfl rfl hld ?_
      go_wp2_with fail
      refine hc2.mono ?_
      rintro e w4 ⟨rfl, hb4⟩
      have z3 : g < W3.heap.size := (Array.getElem?_eq_some_iff.1 HG.out).1
      have HG4 : Hid (w4.heap[g]? = some (.cells R1 53)) := by show _ = _; rw [hb4.block g z3]; exact HG.out
      have hsc := store_whole HG4.out HZS.out r1 r2 HRo.out
      obtain ⟨W5, hW5⟩ : ∃ W5, W5 = w4.setRow g R2 := ⟨_, rfl⟩
      have HG5 : Hid (W5.heap[g]? = some (.cells R2 53)) := by show _ = _; rw [hW5]; exact set_row_same HG4.out
      have HB5 : Hid (Below w.heap.size w W5) := by
        show Below _ _ _
        rw [hW5]
        exact (HB3.out.trans (hb4.mono HB3.out.size)).trans ((set_row_kept _ g _).below (by have := HB3.out.size; have := hb4.size; omega) (fun q hq e => by omega))
      rw [← hW5] at hsc
      clear hW5 hb4 hc2 hld
      have HROW : Hid ((kRow kInt).is false W5 (fun q => q = g) [.slice (some ⟨g, 0, none⟩) x0.size 120] (nts (rkAll (tx x0) (2 * k)))) := rk_row (by rw [← HR2.out]; exact HG5.out) hs (fun i hi => by have := HRK.out (2 * k) i hi; omega)
      have hc3 := cloneInt_k (nts (rkAll (tx x0) (2 * k))) g 0 x0.size 120 (fun q => q = g) W5 HROW.out (by rw [nts_len, rkAll_len, tx_len]; omega)
      have k0 : (x0.size : Int) ≤ 120 := by omega
      go_wp2_with fail
      refine hc3.mono ?_
      rintro e w6 ⟨a6, c6, rfl, hr6, hb6⟩
      have HR6 : Hid ((kRow kInt).is true w6 (fun q => W5.heap.size ≤ q) [.slice a6 x0.size c6] (nts (rkAll (tx x0) (2 * k)))) := hr6
      have HB6 : Hid (Below w.heap.size w w6) := HB5.out.trans (hb6.mono HB5.out.size)
      have HC : Hid (sums kInt.cnt (nts (rkAll (tx x0) (2 * k))) ≤ 2 ^ 26) := rkAll_cnt x0 _ hs
      clear hr6 hb6 hc3
      go_wp2
      refine bodyPost_ret (v := .tuple #[.slice a6 x0.size c6, .bool true]) (by simp [results, Try.results20, go_sem]) rfl ?_
      unfold RRankOf
      rw [HF.out]
      exact ⟨_, _, _, _, rfl, HR6.out, fun q hq => Nat.le_trans HB5.out.size hq, HC.out, HB6.out⟩
  · have HF : Hid (fRankOf x0 x1 x2 = ([], false)) := by show _ = _; unfold fRankOf; rw [if_neg hg]
    have hg' : ¬ (x0.size ≤ 120 ∧ (1 ≤ x1 ∧ x1 ≤ 120) ∧ (0 ≤ x2 ∧ x2 ≤ 1)) := fun h => hg (by unfold rkGood; simp [h])
    unfold IntOk at h1 h2
    clear hg
    by_cases c0 : (120 : Int) < (x0.size : Int)
    · have dc0 : decide ((120 : Int) < (x0.size : Int)) = true := decide_eq_true c0
      clear hg'
      go_enter Try.func20, Try.ntmps20
      go_wp2
      refine bodyPost_ret (v := .tuple #[.slice none 0 0, .bool false]) (by simp [results, Try.results20, go_sem]) rfl ?_
      unfold RRankOf
      rw [HF.out]
      exact ⟨none, 0, 0, fun _ => False, rfl, row_nil _ _ _ _ _ _, fun k hk => hk.elim, by simp [sums], Below.refl _ _⟩
    have dc0 : decide ((120 : Int) < (x0.size : Int)) = false := decide_eq_false c0
    by_cases c1 : x1 < 1
    · have dc1 : decide (x1 < 1) = true := decide_eq_true c1
      clear hg'
      go_enter Try.func20, Try.ntmps20
      go_wp2
      refine bodyPost_ret (v := .tuple #[.slice none 0 0, .bool false]) (by simp [results, Try.results20, go_sem]) rfl ?_
      unfold RRankOf
      rw [HF.out]
      exact ⟨none, 0, 0, fun _ => False, rfl, row_nil _ _ _ _ _ _, fun k hk => hk.elim, by simp [sums], Below.refl _ _⟩
    have dc1 : decide (x1 < 1) = false := decide_eq_false c1
    by_cases c2 : (120 : Int) < x1
    · have dc2 : decide ((120 : Int) < x1) = true := decide_eq_true c2
      clear hg'
      go_enter Try.func20, Try.ntmps20
      go_wp2
      refine bodyPost_ret (v := .tuple #[.slice none 0 0, .bool false]) (by simp [results, Try.results20, go_sem]) rfl ?_
      unfold RRankOf
      rw [HF.out]
      exact ⟨none, 0, 0, fun _ => False, rfl, row_nil _ _ _ _ _ _, fun k hk => hk.elim, by simp [sums], Below.refl _ _⟩
    have dc2 : decide ((120 : Int) < x1) = false := decide_eq_false c2
    by_cases c3 : x2 < 0
    · have dc3 : decide (x2 < 0) = true := decide_eq_true c3
      clear hg'
      go_enter Try.func20, Try.ntmps20
      go_wp2
      refine bodyPost_ret (v := .tuple #[.slice none 0 0, .bool false]) (by simp [results, Try.results20, go_sem]) rfl ?_
      unfold RRankOf
      rw [HF.out]
      exact ⟨none, 0, 0, fun _ => False, rfl, row_nil _ _ _ _ _ _, fun k hk => hk.elim, by simp [sums], Below.refl _ _⟩
    have dc3 : decide (x2 < 0) = false := decide_eq_false c3
    by_cases c4 : (1 : Int) < x2
    · have dc4 : decide ((1 : Int) < x2) = true := decide_eq_true c4
      clear hg'
      go_enter Try.func20, Try.ntmps20
      go_wp2
      refine bodyPost_ret (v := .tuple #[.slice none 0 0, .bool false]) (by simp [results, Try.results20, go_sem]) rfl ?_
      unfold RRankOf
      rw [HF.out]
      exact ⟨none, 0, 0, fun _ => False, rfl, row_nil _ _ _ _ _ _, fun k hk => hk.elim, by simp [sums], Below.refl _ _⟩
    have dc4 : decide ((1 : Int) < x2) = false := decide_eq_false c4
    exact absurd ⟨by omega, ⟨by omega, by omega⟩, by omega, by omega⟩ hg'
end Go.Proofs.Ytkboblfjchkedaa
