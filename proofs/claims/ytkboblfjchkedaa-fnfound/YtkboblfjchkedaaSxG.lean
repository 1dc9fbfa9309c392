/- Ranks by twice as many bytes: doubled. No condition but that a text is short enough. -/
import Derived.Test.YtkboblfjchkedaaSxF
namespace Go.Proofs.Ytkboblfjchkedaa
open Go.RowKit Go.Sort
set_option linter.unusedVariables false

theorem PrAt.put2 {w : World} {b off k : Nat} {d : Array (Int × Int)} (h : PrAt w b off d) (y : Int) (hk : k < d.size) : PrAt (w.setCell ⟨b, off + k * 2 + 1, none⟩ (.int .i64 y)) b off (d.setIfInBounds k (d[k]!.1, y)) := by
  intro j hj
  have hj' : j < d.size := by simpa using hj
  obtain ⟨⟨c1, c2⟩, f1, f2⟩ := h j hj'
  refine ⟨?_, by rw [World.frozen?_setCell]; exact f1, by rw [World.frozen?_setCell]; exact f2⟩
  by_cases e : j = k
  · subst e
    rw [getElem!_set_same d j _ hj']
    constructor
    · rw [World.cell?_setCell_other _ _ _ _ (by intro e; injection e; omega)]
      exact c1
    · exact World.cell?_setCell_same _ _ _ c2
  · rw [getElem!_set_other d k j _ e]
    constructor
    · rw [World.cell?_setCell_other _ _ _ _ (by intro e; injection e; omega)]
      exact c1
    · rw [World.cell?_setCell_other _ _ _ _ (by intro e; injection e; omega)]
      exact c2
theorem PrAt.row {w : World} {b off n c : Nat} {S : Nat → Prop} {l : List (Int × Int)} (h : PrAt w b off l.toArray) (hb : b < w.heap.size) (hS : S b) (hn : n = l.length) (hc : n ≤ c) (hm : l.length ≤ 2 ^ 30) (hk : ∀ x ∈ l, IntOk x.1 ∧ IntOk x.2) : (kRow kPr).is true w S [.slice (some ⟨b, off, none⟩) n c] l := by
  refine kPr_plain.shut (fun i x hx j v hj => ?_) hb hS hn hc hm hk
  have hi := (List.getElem?_eq_some_iff.1 hx).1
  obtain ⟨⟨c1, c2⟩, f1, f2⟩ := h i (by simpa using hi)
  have e0 := toA hi
  rw [hx] at e0
  injection e0 with e0
  rw [← e0] at c1 c2
  have hwd : kPr.wd = 2 := rfl
  rw [hwd]
  match j, hj with
  | 0, hj => have e : Value.int .i64 x.1 = v := by simpa [prC] using hj
             rw [← e]; exact ⟨c1, f1⟩
  | 1, hj => have e : Value.int .i64 x.2 = v := by simpa [prC] using hj
             rw [← e]; exact ⟨c2, f2⟩
  | j + 2, hj => simp [prC] at hj
/-- The rank of a place and of the one behind it. -/
def prR (n k : Nat) (r : Nat → Nat) (i : Nat) : Int × Int := (r i, if i + k < n then (r (i + k) : Int) else -1)
/-- The pairs of the first p places. -/
def prD (n k : Nat) (r : Nat → Nat) (p : Nat) : List (Int × Int) := (List.range n).map fun i => if i < p then prR n k r i else (0, 0)
theorem prD_len (n k : Nat) (r : Nat → Nat) (p : Nat) : (prD n k r p).length = n := by simp [prD]
theorem prD_set (n k : Nat) (r : Nat → Nat) (p : Nat) (hp : p < n) : (prD n k r p).toArray.setIfInBounds p (prR n k r p) = (prD n k r (p + 1)).toArray := by
  unfold prD
  rw [← set_upto (prR n k r) (0, 0) n p hp]
  simp
theorem makePr (n : Nat) (hn : n ≤ 2 ^ 30) (W : World) : (Instr.makeSlice 78 (.int .i64 (n : Int)) (.int .i64 (n : Int))).run Try.prog W = .ok (.slice (some ⟨W.heap.size, 0, none⟩) n n) (W.alloc (.cells (madeCells #[.int .i64 0, .int .i64 0] (n * 2)) 80)) := by
  obtain ⟨i0, hi, hz0, hz1, hz2⟩ := info_parts infoPair
  have h := run_make (P := Try.prog) W 78 80 i0 _ Try.underlying78 hi hz0 .i64 .i64 n n (by omega) (by omega) (by rw [hz2]; omega) (by omega)
  rw [hz1] at h
  simpa [Value.cells] using h
theorem made_pr {w : World} {g n : Nat} {r : Nat → Nat} {k : Nat} (hg : w.heap[g]? = some (.cells (madeCells #[.int .i64 0, .int .i64 0] (n * 2)) 80)) : PrAt w g 0 (prD n k r 0).toArray := by
  intro j hj
  have hj' : j < n := by simpa [prD_len] using hj
  have e : (prD n k r 0).toArray[j]! = (0, 0) := by
    have := toA (l := prD n k r 0) (i := j) (by rw [prD_len]; exact hj')
    unfold prD at this ⊢
    rw [upto_none] at this ⊢
    simp [hj'] at this ⊢
  rw [e, cell_of_row _ _ _ _ _ _ hg, cell_of_row _ _ _ _ _ _ hg]
  refine ⟨⟨?_, ?_⟩, by simp [World.frozen?, hg], by simp [World.frozen?, hg]⟩
  · simp [madeCells, show j * 2 < n * 2 by omega]
  · simp [madeCells, show j * 2 + 1 < n * 2 by omega, show (j * 2 + 1) % 2 = 1 by omega]
set_option maxRecDepth 100000 in
set_option maxHeartbeats 4000000 in
theorem doubled_k (n k : Nat) (r : Nat → Nat) (w : World) (hn : n ≤ 120) (hk : k ≤ 2 ^ 20) (hr : ∀ i, i < n → r i ≤ 2 ^ 20) :
    Calls Try.prog 49 #[.agg (rkA r n), .int .i64 n, .int .i64 k] w fun e w' => e = .returned (.agg (rkA (rkP ((List.range n).map (prR n k r))) n)) ∧ Below w.heap.size w w' := by
  obtain ⟨zv, zs⟩ := zero_of_info info_pr
  obtain ⟨Z, hZ⟩ : ∃ Z : Array Value, Z = Array.replicate 120 (.int .i64 0) := ⟨_, rfl⟩
  rw [← hZ] at zv
  have HZ : Hid (Z = rkA r 0) := by show _ = _; rw [rkA_zero, hZ]
  have HZS : Hid ((Try.prog.info? 53).map (·.size) = some 120) := zs
  have HR : Hid (∀ i, i < n → r i ≤ 2 ^ 20) := hr
  obtain ⟨R, hR⟩ : ∃ R, R = rkA r n := ⟨_, rfl⟩
  have HRA : Hid (R = rkA r n) := hR
  rw [← hR]
  have hmk := makePr n (by omega)
  clear hZ zs hR hr
  obtain ⟨W1, hW1⟩ : ∃ W1, W1 = ((w.alloc (.cells R 53)).alloc (.cells Z 53)).alloc (.cells (madeCells #[.int .i64 0, .int .i64 0] (n * 2)) 80) := ⟨_, rfl⟩
  have z1 : W1.heap.size = w.heap.size + 1 + 1 + 1 := by rw [hW1]; simp
  have HX0 : Hid (W1.heap[w.heap.size]? = some (.cells R 53)) := by
    show _ = _
    rw [hW1, (below_a1r ((w.alloc (.cells R 53)).alloc (.cells Z 53)) _).block w.heap.size (by simp; omega), (below_a1r (w.alloc (.cells R 53)) _).block w.heap.size (by simp)]
    exact heap_alloc_last _ _
  have H0 : Hid (W1.heap[w.heap.size + 1]? = some (.cells Z 53)) := by
    show _ = _
    have h2 := heap_alloc_last (w.alloc (.cells R 53)) (.cells Z 53)
    rw [World.size_alloc] at h2
    rw [hW1, (below_a1r ((w.alloc (.cells R 53)).alloc (.cells Z 53)) _).block (w.heap.size + 1) (by simp)]
    exact h2
  have HP1 : Hid (PrAt W1 (w.heap.size + 1 + 1) 0 (prD n k r 0).toArray) := by
    have h2 := heap_alloc_last ((w.alloc (.cells R 53)).alloc (.cells Z 53)) (.cells (madeCells #[.int .i64 0, .int .i64 0] (n * 2)) 80)
    rw [World.size_alloc, World.size_alloc, ← hW1] at h2
    exact made_pr h2
  have HB1 : Hid (Below w.heap.size w W1) := by show Below _ _ _; rw [hW1]; exact (((Below.refl _ _).alloc (Nat.le_refl _) _).alloc (by simp) _).alloc (by simp; omega) _
  go_enter Try.func49, Try.ntmps49
  go_wp2_with fail
  rw [← hW1]
  obtain ⟨g, hg⟩ : ∃ g, g = w.heap.size + 1 + 1 := ⟨_, rfl⟩
  obtain ⟨g1, hg1⟩ : ∃ g1, g1 = w.heap.size + 1 := ⟨_, rfl⟩
  obtain ⟨g0, hg0⟩ : ∃ g0, g0 = w.heap.size := ⟨_, rfl⟩
  have HG0 : Hid (g0 = w.heap.size) := hg0
  rw [← hg] at HP1 ⊢
  rw [← hg1] at H0 ⊢
  rw [← hg0] at HX0 ⊢
  have zg : g < W1.heap.size := by omega
  have zg0 : g1 < g := by omega
  have zg1 : g0 < g1 := by omega
  clear hW1 hg z1 hmk hg1 hg0
  go_loopw [13] (fun kv wr => ∃ p : Nat, p ≤ n ∧ kv = .int .i64 p ∧ Hid (PrAt wr g 0 (prD n k r p).toArray) ∧ Hid (Below g W1 wr)) (fun kv _ => n - (intOf kv).toNat)
  case atStart => exact ⟨0, Nat.zero_le _, rfl, HP1, Below.refl _ _⟩
  case round =>
    obtain ⟨p, hp, rfl, HP, HX⟩ := hrel
    by_cases hlt : p < n
    · obtain ⟨⟨A1, A2⟩, F1, F2⟩ := HP.out p (by simpa [prD_len] using hlt)
      rw [show 0 + p * 2 = p * 2 by omega] at A1 A2 F1 F2
      generalize (prD n k r p).toArray[p]!.1 = v1 at *
      generalize (prD n k r p).toArray[p]!.2 = v2 at *
      have hX0 : wr.heap[g0]? = some (.cells R 53) := by rw [HX.out.block g0 (by omega)]; exact HX0.out
      have HPs : Hid (p < (prD n k r p).toArray.size) := by show _ < _; simpa [prD_len] using hlt
      have C0 : wr.cell? ⟨g0, p, none⟩ = some (.int .i64 (r p)) := by rw [cell_of_row _ _ _ _ _ _ hX0, HRA.out, rkA_at (by omega), if_pos hlt]
      have k0 : (0 : Int) ≤ (p : Int) := by omega
      have k1 : (p : Int) < (n : Int) := by omega
      have k2 : (p : Int) < 120 := by omega
      by_cases hpk : p + k < n
      · have C1 : wr.cell? ⟨g0, p + k, none⟩ = some (.int .i64 (r (p + k) : Nat)) := by rw [cell_of_row _ _ _ _ _ _ hX0, HRA.out, rkA_at (by omega), if_pos hpk]
        have HE : Hid (prR n k r p = ((r p : Int), ((r (p + k) : Nat) : Int))) := by show _ = _; unfold prR; rw [if_pos hpk]
        have k3 : (p : Int) + (k : Int) < (n : Int) := by omega
        have k4 : (0 : Int) ≤ (p : Int) + (k : Int) := by omega
        have k5 : (p : Int) + (k : Int) < 120 := by omega
        clear hX0
        go_upto_region 7 with fail
        obtain ⟨W2, hW2⟩ : ∃ W2, W2 = (wr.setCell ⟨g, p * 2, none⟩ (.int .i64 (r p))).setCell ⟨g, p * 2 + 1, none⟩ (.int .i64 (-1)) := ⟨_, rfl⟩
        have D1 : W2.cell? ⟨g0, p + k, none⟩ = some (.int .i64 (r (p + k) : Nat)) := by
          rw [hW2, World.cell?_setCell_other _ _ _ _ (by intro e; injection e; omega), World.cell?_setCell_other _ _ _ _ (by intro e; injection e; omega)]
          exact C1
        have D2 : W2.cell? ⟨g, p * 2 + 1, none⟩ = some (.int .i64 (-1)) := by
          rw [hW2]
          refine World.cell?_setCell_same _ _ _ (u := .int .i64 v2) ?_
          rw [World.cell?_setCell_other _ _ _ _ (by intro e; injection e; omega)]
          exact A2
        have D3 : W2.frozen? ⟨g, p * 2 + 1, none⟩ = false := by rw [hW2, World.frozen?_setCell, World.frozen?_setCell]; exact F2
        have HP2 : Hid (PrAt W2 g 0 ((prD n k r p).toArray.setIfInBounds p ((r p : Int), -1))) := by
          have := HP.out.put (r p) (-1) HPs.out
          rw [show 0 + p * 2 = p * 2 by omega, ← hW2] at this
          exact this
        have HX2 : Hid (Below g W1 W2) := by
          show Below _ _ _
          rw [hW2]
          exact (HX.out.setCell (by show g ≤ g; omega) _).setCell (by show g ≤ g; omega) _
        rw [← hW2]
        clear hW2 A1 A2 F1 F2 C0 C1
        have HP3 : Hid (PrAt (W2.setCell ⟨g, p * 2 + 1, none⟩ (.int .i64 (r (p + k) : Nat))) g 0 (prD n k r (p + 1)).toArray) := by
          have := HP2.out.put2 (k := p) ((r (p + k) : Nat) : Int) (by rw [Array.size_setIfInBounds]; exact HPs.out)
          rw [getElem!_set_same _ p _ HPs.out, Array.setIfInBounds_setIfInBounds, ← HE.out, prD_set n k r p hlt, show 0 + p * 2 = p * 2 by omega] at this
          exact this
        generalize r p = rp at *
        generalize r (p + k) = rk at *
        go_region
        all_goals (
          go_wp2
          go_roundw
          case rel =>
            refine ⟨p + 1, by omega, by go_num, ?_, ?_⟩
            · exact HP3.out
            · exact (HX2.out.setCell (p := ⟨g, p * 2 + 1, none⟩) (by show g ≤ g; omega) _).drew
          case measure => simp [intOf]; omega)
      · have HE : Hid (prR n k r p = ((r p : Int), -1)) := by show _ = _; unfold prR; rw [if_neg hpk]
        have k3 : ¬ (p : Int) + (k : Int) < (n : Int) := by omega
        clear hX0
        go_wp2
        go_roundw
        case rel =>
          refine ⟨p + 1, by omega, by go_num, ?_, ?_⟩
          · have := HP.out.put (r p) (-1) HPs.out
            rw [← HE.out, prD_set n k r p hlt, show 0 + p * 2 = p * 2 by omega] at this
            exact this
          · exact (HX.out.setCell (by show g ≤ g; omega) _).setCell (by show g ≤ g; omega) _
        case measure => simp [intOf]; omega
    · obtain rfl : p = n := by omega
      have k1 : ¬ (p : Int) < (p : Int) := by omega
      have HG2 : Hid ((kRow kPr).is false wr (fun q => q = g) [.slice (some ⟨g, 0, none⟩) p p] ((List.range p).map (prR p k r))) := by
        have hP := HP.out
        unfold prD at hP
        rw [upto_all] at hP
        refine (kRow kPr).read (hP.row (by have := HX.out.size; omega) rfl (by simp) (Nat.le_refl _) (by simp; omega) fun x hx => ?_)
        obtain ⟨i, hi, rfl⟩ := List.mem_map.1 hx
        have hi' : i < p := by simpa using hi
        have h1 := HR.out i hi'
        unfold prR IntOk
        refine ⟨by simp only; omega, ?_⟩
        simp only
        split
        · next c => have := HR.out _ c; omega
        · omega
      clear HP
      go_wp2_with fail
      refine (ranksPr_k _ _ _ _ _ _ wr HG2.out (by simpa using hn)).mono ?_
      rintro e w6 ⟨rfl, hb6⟩
      have HB6 : Hid (Below g W1 w6) := HX.out.trans (hb6.mono (by have := HX.out.size; omega))
      have H6 : Hid (w6.heap[g1]? = some (.cells Z 53)) := by show _ = _; rw [HB6.out.block _ zg0]; exact H0.out
      rw [List.length_map, List.length_range]
      obtain ⟨R2, hR⟩ : ∃ R2, R2 = rkA (rkP ((List.range p).map (prR p k r))) p := ⟨_, rfl⟩
      have hRs : R2.size = 120 := by rw [hR, rkA_size]
      have hRo : R2.all (·.oneCell') = true := by rw [hR]; exact rkA_one _ _
      have hst : (storeVar 53 ⟨g1, 0, none⟩ (.agg R2)).run Try.prog w6 = .ok () (w6.setRow g1 R2) := run_storeVar_row w6 _ _ _ _ _ H6.out (by rw [hRs]; exact HZS.out) (by rw [HZ.out, rkA_size, hRs]) hRo
      have HL7 : Hid ((w6.setRow g1 R2).heap[g1]? = some (.cells R2 53)) := set_row_same H6.out
      have HB7 : Hid (Below w.heap.size w (w6.setRow g1 R2)) := (HB1.out.trans (HB6.out.mono (by have := HG0.out; omega))).trans ((set_row_kept w6 g1 _).below (by have := HB6.out.size; have := HG0.out; omega) (fun q hq e => by have := HG0.out; omega))
      have HE2 : Hid (R2 = rkA (rkP ((List.range p).map (prR p k r))) p) := hR
      rw [← hR]
      have hsc := store_cells (by rw [hRs]; exact HZS.out) hst
      generalize w6.setRow g1 R2 = W7 at *
      clear hR hst hRo
      go_wp2_with fail
      refine bodyPost_ret (v := .agg R2) ?_ rfl ⟨by rw [HE2.out], HB7.out⟩
      exact results_cell_row rfl _ _ g1 _ R2 _ _ rfl HL7.out Try.underlying53 rfl (by rw [hRs]; exact HZS.out)
end Go.Proofs.Ytkboblfjchkedaa
