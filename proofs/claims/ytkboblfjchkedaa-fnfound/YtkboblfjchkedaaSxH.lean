/- Ranks doubled until nothing changes: ranksOfEndings. No condition but that a text is short enough. -/
import Derived.Test.YtkboblfjchkedaaSxG
namespace Go.Proofs.Ytkboblfjchkedaa
open Go.RowKit Go.Sort
set_option linter.unusedVariables false

/-- The ranks as numbers. -/
def rkI (r : Nat → Nat) (n : Nat) : List Int := (List.range 120).map fun i => if i < n then (r i : Int) else 0
theorem rkA_eq (r : Nat → Nat) (n : Nat) : rkA r n = ((rkI r n).map (Value.int .i64)).toArray := by
  unfold rkA rkI
  rw [List.map_map]
  rfl
theorem rkI_len (r : Nat → Nat) (n : Nat) : (rkI r n).length = 120 := by simp [rkI]
theorem rkI_same {r r' : Nat → Nat} {n : Nat} (hn : n ≤ 120) : rkI r n = rkI r' n ↔ ∀ i, i < n → r i = r' i := by
  constructor
  · intro h i hi
    have := congrArg (fun l => l[i]?) h
    simp [rkI, show i < 120 by omega, hi] at this
    omega
  · intro h
    refine List.map_congr_left fun i _ => ?_
    by_cases c : i < n
    · rw [if_pos c, if_pos c, h i c]
    · rw [if_neg c, if_neg c]
theorem eql_ranks (r r' : Nat → Nat) (n : Nat) (w : World) : (binOp .eql 53 (.agg (rkA r n)) (.agg (rkA r' n))).run Try.prog w = .ok (.bool (rkI r n == rkI r' n)) w := by
  rw [rkA_eq, rkA_eq]
  exact run_eql_ints 53 3 120 (rkI r n) (rkI r' n) w Try.underlying53 Try.underlying3 Try.sizeOf3 Try.isAgg3 (rkI_len _ _) (rkI_len _ _)
theorem guard_ranks : Try.prog.eqGuardType Try.prog.depth 53 = false := by kernel_rfl
theorem rkP_is {t : List UInt8} {k : Nat} (hk : 0 < k) (i : Nat) (hi : i < t.length) : rkP ((List.range t.length).map (prR t.length k (rkS t k))) i = rkS t (2 * k) i := by
  unfold rkP
  rw [← double_rank hk i hi, List.getD_eq_getElem?_getD]
  simp [hi]
  rfl
/-- A whole array stored into a block. -/
theorem store_whole {w : World} {g : Nat} {R0 R : Array Value} (hg : w.heap[g]? = some (.cells R0 53)) (hs : (Try.prog.info? 53).map (·.size) = some 120) (h0 : R0.size = 120) (h1 : R.size = 120) (ho : R.all (·.oneCell') = true) :
    (storeCells ⟨g, 0, none⟩ R.toList).run Try.prog w = .ok () (w.setRow g R) :=
  store_cells (by rw [h1]; exact hs) (run_storeVar_row w _ _ _ _ _ hg (by rw [h1]; exact hs) (by rw [h0, h1]) ho)
theorem load_whole {w : World} {g : Nat} {R : Array Value} (hg : w.heap[g]? = some (.cells R 53)) (hs : (Try.prog.info? 53).map (·.size) = some 120) (h1 : R.size = 120) :
    (loadVar 53 ⟨g, 0, none⟩).run Try.prog w = .ok (.agg R) w :=
  run_loadVar_row w g _ _ _ _ _ hg Try.underlying53 rfl (by rw [h1]; exact hs)
theorem rkA_ok (r : Nat → Nat) (n : Nat) : (rkA r n).size = 120 ∧ (rkA r n).all (·.oneCell') = true := ⟨rkA_size _ _, rkA_one _ _⟩

set_option maxRecDepth 100000 in
set_option maxHeartbeats 4000000 in
theorem ranksOfEndings_k (s : ByteArray) (w : World) (hs : s.size ≤ 120) :
    Calls Try.prog 30 #[.string s] w fun e w' => ∃ k, 0 < k ∧ (∀ i, i < s.size → rkS (tx s) k i = rkS (tx s) (2 * k) i) ∧ e = .returned (.agg (rkA (rkS (tx s) k) s.size)) ∧ Below w.heap.size w w' := by
  obtain ⟨zv, zs⟩ := zero_of_info info_pr
  obtain ⟨Z, hZ⟩ : ∃ Z : Array Value, Z = Array.replicate 120 (.int .i64 0) := ⟨_, rfl⟩
  rw [← hZ] at zv
  have HZ : Hid (Z.size = 120) := by show _ = _; rw [hZ]; simp
  have HZS : Hid ((Try.prog.info? 53).map (·.size) = some 120) := zs
  have HS : Hid (s.size = (tx s).length) := rfl
  obtain ⟨n, hn⟩ : ∃ n, n = s.size := ⟨_, rfl⟩
  have HN : Hid (n = s.size) := hn
  obtain ⟨W0, hW0⟩ : ∃ W0, W0 = w.alloc (.cells Z 53) := ⟨_, rfl⟩
  have H0 : Hid (W0.heap[w.heap.size]? = some (.cells Z 53)) := by show _ = _; rw [hW0]; exact heap_alloc_last _ _
  have HB0 : Hid (Below w.heap.size w W0) := by show Below _ _ _; rw [hW0]; exact below_a1r _ _
  have z0 : w.heap.size < W0.heap.size := by rw [hW0]; simp
  have hcl := ranksBy_k s 1 W0 hs (by omega)
  rw [← hn] at hcl hs
  clear hZ zs
  go_enter Try.func30, Try.ntmps30
  go_wp2_with fail
  rw [← hW0]
  refine hcl.mono ?_
  rintro e w1 ⟨rfl, hb1⟩
  have HB1 : Hid (Below W0.heap.size W0 w1) := hb1
  have z1 := hb1.size
  obtain ⟨g, hg⟩ : ∃ g, g = w1.heap.size := ⟨_, rfl⟩
  have hA : (w1.alloc (.cells Z 53)).heap[g]? = some (.cells Z 53) := by rw [hg]; exact heap_alloc_last _ _
  have hsc := store_whole hA HZS.out HZ.out (rkA_ok (rkS (tx s) 1) n).1 (rkA_ok _ _).2
  obtain ⟨W2, hW2⟩ : ∃ W2, W2 = (w1.alloc (.cells Z 53)).setRow g (rkA (rkS (tx s) 1) n) := ⟨_, rfl⟩
  have HG : Hid (W2.heap[g]? = some (.cells (rkA (rkS (tx s) 1) n) 53)) := by show _ = _; rw [hW2]; exact set_row_same hA
  have HB2 : Hid (Below W0.heap.size W0 W2) := by
    show Below _ _ _
    rw [hW2]
    exact ((hb1.trans ((below_a1r _ _).mono z1))).trans ((set_row_kept _ g _).below (by simp; omega) (fun q hq e => by omega))
  have zg : W0.heap.size ≤ g := by omega
  have z2 : g < W2.heap.size := (Array.getElem?_eq_some_iff.1 HG.out).1
  rw [← hW2] at hsc
  rw [hg] at hsc
  obtain ⟨R1, hR1⟩ : ∃ R1, R1 = rkA (rkS (tx s) 1) n := ⟨_, rfl⟩
  have r1 : R1.size = 120 := by rw [hR1]; exact rkA_size _ _
  rw [← hR1] at hsc ⊢
  clear hcl hb1 hA hW2 z1 hR1
  go_wp2_with fail
  rw [← hg]
  clear hg hsc hW0
  clear r1
  go_loopw [3] (fun kv wr => ∃ k : Nat, 0 < k ∧ k ≤ 240 ∧ kv = .int .i64 k ∧ Hid (wr.heap[g]? = some (.cells (rkA (rkS (tx s) k) n) 53)) ∧ Hid (Below W0.heap.size W0 wr)) (fun kv _ => 240 - (intOf kv).toNat)
  case atStart => exact ⟨1, by omega, by omega, rfl, HG, HB2⟩
  case round =>
    obtain ⟨k, hk0, hk, rfl, HX, HB⟩ := hrel
    have hld := load_whole HX.out HZS.out (rkA_ok _ _).1
    have zr := HB.out.size
    have zgr : g < wr.heap.size := (Array.getElem?_eq_some_iff.1 HX.out).1
    have hcl := doubled_k n k (rkS (tx s) k) wr hs (by omega) (fun i hi => by have := rkS_lt (tx s) k i (by rw [← HS.out, ← HN.out]; exact hi); rw [← HS.out, ← HN.out] at this; omega)
    have HD : Hid (rkA (rkP ((List.range n).map (prR n k (rkS (tx s) k)))) n = rkA (rkS (tx s) (2 * k)) n) := by
      refine rkA_ext fun i hi => ?_
      have e : n = (tx s).length := HN.out
      rw [e]
      exact rkP_is hk0 i (by rw [← e]; exact hi)
    rw [HD.out] at hcl
    have hE := eql_ranks (rkS (tx s) (2 * k)) (rkS (tx s) k) n
    have hgd := guard_ranks
    have HE : Hid ((rkI (rkS (tx s) (2 * k)) n == rkI (rkS (tx s) k) n) = true ↔ ∀ i, i < n → rkS (tx s) (2 * k) i = rkS (tx s) k i) := by
      show _ ↔ _
      rw [beq_iff_eq]
      exact rkI_same hs
    generalize (rkI (rkS (tx s) (2 * k)) n == rkI (rkS (tx s) k) n) = q at *
    obtain ⟨R, hR⟩ : ∃ R, R = rkA (rkS (tx s) k) n := ⟨_, rfl⟩
    obtain ⟨R', hR'⟩ : ∃ R', R' = rkA (rkS (tx s) (2 * k)) n := ⟨_, rfl⟩
    have HR : Hid (R = rkA (rkS (tx s) k) n) := hR
    have HR' : Hid (R' = rkA (rkS (tx s) (2 * k)) n) := hR'
    have HRo : Hid (R.size = 120 ∧ R.all (·.oneCell') = true) := by rw [hR]; exact rkA_ok _ _
    have HRo' : Hid (R'.size = 120 ∧ R'.all (·.oneCell') = true) := by rw [hR']; exact rkA_ok _ _
    rw [← hR] at hld hE HX hcl
    rw [← hR'] at hcl hE
    clear hR hR' HD
    go_wp2_with fail
    refine wp_load rfl rfl hld ?_
    go_wp2_with fail
    rw [← HN.out]
    refine hcl.mono ?_
    rintro e w3 ⟨rfl, hb3⟩
    obtain ⟨g5, hg5⟩ : ∃ g5, g5 = w3.heap.size := ⟨_, rfl⟩
    have z3 := hb3.size
    have hA : (w3.alloc (.cells Z 53)).heap[g5]? = some (.cells Z 53) := by rw [hg5]; exact heap_alloc_last _ _
    have hsc := store_whole hA HZS.out HZ.out HRo'.out.1 HRo'.out.2
    obtain ⟨W4, hW4⟩ : ∃ W4, W4 = (w3.alloc (.cells Z 53)).setRow g5 R' := ⟨_, rfl⟩
    have HG5 : Hid (W4.heap[g5]? = some (.cells R' 53)) := by show _ = _; rw [hW4]; exact set_row_same hA
    have HB4 : Hid (Below wr.heap.size wr W4) := by
      show Below _ _ _
      rw [hW4]
      exact (hb3.trans ((below_a1r _ _).mono z3)).trans ((set_row_kept _ g5 _).below (by simp; omega) (fun q hq e => by omega))
    have HX4 : Hid (W4.heap[g]? = some (.cells R 53)) := by show _ = _; rw [HB4.out.block g zgr]; exact HX.out
    have HB5 : Hid (Below W0.heap.size W0 W4) := HB.out.trans (HB4.out.mono zr)
    rw [← hW4, hg5] at hsc
    have hr5 : R'.size = 120 := HRo'.out.1
    clear hcl hb3 hA hW4 hld
    go_wp2_with fail
    rw [← hg5]
    clear hg5 hsc
    have hl5 := load_whole HG5.out HZS.out HRo'.out.1
    have hl4 := load_whole HX4.out HZS.out HRo.out.1
    cases q with
    | true =>
      have HF : Hid (∀ i, i < s.size → rkS (tx s) k i = rkS (tx s) (2 * k) i) := fun i hi => (HE.out.1 rfl i (by rw [HN.out]; exact hi)).symm
      have H6 : Hid (W4.heap[w.heap.size]? = some (.cells Z 53)) := by show _ = _; rw [HB5.out.block _ z0]; exact H0.out
      have hsc := store_whole H6.out HZS.out HZ.out HRo.out.1 HRo.out.2
      have HL7 : Hid ((W4.setRow w.heap.size R).heap[w.heap.size]? = some (.cells R 53)) := set_row_same H6.out
      have HB7 : Hid (Below w.heap.size w (W4.setRow w.heap.size R)) := (HB0.out.trans (HB5.out.mono HB0.out.size)).trans ((set_row_kept W4 w.heap.size _).below (by have := HB5.out.size; omega) (fun q hq e => by omega))
      generalize W4.setRow w.heap.size R = W7 at *
      have hRs : R.size = 120 := HRo.out.1
      refine wp_load rfl rfl hl5 ?_
      go_wp2_with fail
      refine wp_load rfl rfl hl4 ?_
      go_wp2_with fail
      refine wp_load rfl rfl hl4 ?_
      go_wp2_with fail
      refine bodyPost_ret (v := .agg R) ?_ rfl ⟨k, hk0, HF.out, by rw [HR.out, HN.out], HB7.out⟩
      exact results_cell_row rfl _ _ w.heap.size _ R _ _ rfl HL7.out Try.underlying53 rfl (by rw [hRs]; exact HZS.out)
    | false =>
      have hkn : k < n := by
        refine Nat.lt_of_not_le fun hge => ?_
        have := HE.out.2 fun i hi => (stay_end (by rw [← HS.out, ← HN.out]; exact hge) i).symm
        cases this
      have hsc := store_whole HX4.out HZS.out HRo.out.1 HRo'.out.1 HRo'.out.2
      have HL7 : Hid ((W4.setRow g R').heap[g]? = some (.cells (rkA (rkS (tx s) (2 * k)) n) 53)) := by show _ = _; rw [← HR'.out]; exact set_row_same HX4.out
      have HB7 : Hid (Below W0.heap.size W0 (W4.setRow g R')) := HB5.out.trans ((set_row_kept W4 g _).below HB5.out.size (fun q hq e => by omega))
      generalize W4.setRow g R' = W7 at *
      refine wp_load rfl rfl hl5 ?_
      go_wp2_with fail
      refine wp_load rfl rfl hl4 ?_
      go_wp2_with fail
      refine wp_load rfl rfl hl5 ?_
      go_wp2
      go_roundw
      case rel => exact ⟨2 * k, by omega, by omega, by go_num, HL7, HB7⟩
      case measure => simp [intOf]; omega
end Go.Proofs.Ytkboblfjchkedaa
