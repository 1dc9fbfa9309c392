/- The ranks of pairs among each other, in an array. No condition but that there are no more than 120. -/
import Derived.Test.YtkboblfjchkedaaSxD
import Derived.Test.YtkboblfjchkedaaSxR
namespace Go.Proofs.Ytkboblfjchkedaa
open Go.RowKit
set_option linter.unusedVariables false

/-- The rank of each place of a list of pairs. -/
def rkP (l : List (Int × Int)) (i : Nat) : Nat := rkIn ltP l (l.getD i (0, 0))
set_option maxRecDepth 100000 in
set_option maxHeartbeats 4000000 in
theorem ranksPr_k (l : List (Int × Int)) (ab ao n c : Nat) (S : Nat → Prop) (w : World) (h : (kRow kPr).is false w S [.slice (some ⟨ab, ao, none⟩) n c] l) (hl : l.length ≤ 120) :
    Calls Try.prog 59 #[.slice (some ⟨ab, ao, none⟩) n c, .func (.func 60) #[] #[]] w fun e w' => e = .returned (.agg (rkA (rkP l) l.length)) ∧ Below w.heap.size w w' := by
  obtain ⟨zv, zs⟩ := zero_of_info info_pr
  have HN : Hid (n = l.length) := row_len h
  have hn120 : n ≤ 120 := by rw [HN.out]; exact hl
  have HL : Hid (l.length ≤ 120) := hl
  obtain ⟨Z, hZ⟩ : ∃ Z : Array Value, Z = Array.replicate 120 (.int .i64 0) := ⟨_, rfl⟩
  rw [← hZ] at zv
  have HZ : Hid (Z = rkA (rkP l) 0) := by show _ = _; rw [rkA_zero, hZ]
  have HZS : Hid ((Try.prog.info? 53).map (·.size) = some 120) := zs
  obtain ⟨W0, hW0⟩ : ∃ W0, W0 = w.alloc (.cells Z 53) := ⟨_, rfl⟩
  have B0 : Below w.heap.size w W0 := by rw [hW0]; exact below_a1r _ _
  have H0 : Hid (W0.heap[w.heap.size]? = some (.cells Z 53)) := by show _ = _; rw [hW0]; exact heap_alloc_last _ _
  have Z0 : W0.heap.size = w.heap.size + 1 := by rw [hW0]; simp
  have HR : Hid ((kRow kPr).is false W0 S [.slice (some ⟨ab, ao, none⟩) n c] l) := Kd.below h B0
  have HRW : Hid ((kRow kPr).is false w S [.slice (some ⟨ab, ao, none⟩) n c] l) := h
  clear h hl hZ zs
  go_enter Try.func59, Try.ntmps59
  go_wp2_with fail
  rw [← hW0]
  refine (clonePr_k l ab ao n c S W0 HR.out (by have := HL.out; omega)).mono ?_
  rintro e w1 ⟨a1, c1, rfl, hr1, hb1⟩
  have HR1 : Hid ((kRow kPr).is true w1 (fun k => W0.heap.size ≤ k) [.slice a1 n c1] l) := hr1
  have HB1 : Hid (Below W0.heap.size W0 w1) := hb1
  have z1 := hb1.size
  clear hr1 hb1 hW0
  go_wp2_with fail
  refine (sortPr_k l a1 n c1 _ w1 HR1.out (by have := HL.out; omega)).mono ?_
  rintro e w2 ⟨rfl, hr2, hk2⟩
  have HR2 : Hid ((kRow kPr).is true w2 (fun k => W0.heap.size ≤ k) [.slice a1 n c1] (srtP l)) := hr2
  have HB2 : Hid (Below W0.heap.size W0 w2) := HB1.out.trans (hk2.below z1 (fun k hk h => by omega))
  have z2 := HB2.out.size
  clear hr2 hk2 HR1 HB1
  go_wp2_with fail
  refine (compactPr_k (srtP l) a1 n c1 _ w2 HR2.out (by have := HL.out; have : (srtP l).length = l.length := (List.mergeSort_perm l _).length_eq; omega)).mono ?_
  rintro e w3 ⟨m, rfl, hr3, hk3⟩
  have hU : Lib.compact (srtP l) = uni ltP l := sort_uni ltP_sto cmpP_lt l
  rw [hU] at hr3
  have HB3 : Hid (Below W0.heap.size W0 w3) := HB2.out.trans (hk3.below z2 (fun k hk h => by omega))
  have z3 := HB3.out.size
  obtain ⟨g, hg⟩ : ∃ g, g = w3.heap.size := ⟨_, rfl⟩
  obtain ⟨W4, hW4⟩ : ∃ W4, W4 = w3.alloc (.cells Z 53) := ⟨_, rfl⟩
  have B4 : Below g w3 W4 := by rw [hW4, hg]; exact below_a1r _ _
  have H4 : Hid (W4.heap[g]? = some (.cells (rkA (rkP l) 0) 53)) := by show _ = _; rw [hW4, hg, ← HZ.out]; exact heap_alloc_last _ _
  have z4 : W4.heap.size = g + 1 := by rw [hW4, hg]; simp
  have HR4 : Hid ((kRow kPr).is false W4 (fun k => k < g) [.slice a1 m c1] (uni ltP l)) := Kd.below ((kRow kPr).tight ((kRow kPr).read hr3) (fun k hk _ => by omega)) (by rw [← hg]; exact B4)
  have HB4 : Hid (Below W0.heap.size W0 W4) := HB3.out.trans (B4.mono (by omega))
  have HS4 : Hid ((kRow kPr).is false W4 (fun k => k < g) [.slice (some ⟨ab, ao, none⟩) n c] l) := Kd.below ((kRow kPr).tight HR.out (fun k hk _ => by show k < g; omega)) HB4.out
  have hm : m ≤ 2 ^ 30 := by have := row_len hr3; have := uni_len (lt := ltP) l; have := HL.out; omega
  clear hr3 hk3 HR2 HB2 hU B4
  go_wp2_with fail
  rw [← hW4, ← hg]
  have zg : g < W4.heap.size := by omega
  have zg0 : W0.heap.size ≤ g := by omega
  have zw0 : w.heap.size < W0.heap.size := by omega
  clear hW4 hg z4 Z0 z3 z2 z1
  go_loopw [18] (fun kv wr => ∃ k : Nat, k ≤ n ∧ kv = .int .i64 k ∧ Hid (wr.heap[g]? = some (.cells (rkA (rkP l) k) 53)) ∧ Hid (Below g W4 wr)) (fun kv _ => n - (intOf kv).toNat)
  case atStart => exact ⟨0, Nat.zero_le _, rfl, H4, Below.refl _ _⟩
  case round =>
    obtain ⟨k, hk, rfl, HG, HX⟩ := hrel
    have zr := HX.out.size
    by_cases hlt : k < n
    · obtain ⟨⟨x1, x2⟩, hx⟩ : ∃ x, l[k]? = some x := ⟨_, List.getElem?_eq_getElem (by rw [← HN.out]; exact hlt)⟩
      have HSr : (kRow kPr).is false wr (fun k => k < g) [.slice (some ⟨ab, ao, none⟩) n c] l := (kRow kPr).keep HS4.out zr (fun q _ hq => HX.out.block q hq)
      have HRr : Hid ((kRow kPr).is false wr (fun k => k < g) [.slice a1 m c1] (uni ltP l)) := (kRow kPr).keep HR4.out zr (fun q _ hq => HX.out.block q hq)
      have A0 : wr.cell? ⟨ab, ao + k * 2, none⟩ = some (.int .i64 x1) := kPr_plain.cell HSr hx (j := 0) rfl
      have A1 : wr.cell? ⟨ab, ao + k * 2 + 1, none⟩ = some (.int .i64 x2) := kPr_plain.cell HSr hx (j := 1) rfl
      obtain ⟨W1, hW1⟩ : ∃ W1, W1 = wr.alloc (.cells #[.int .i64 x1, .int .i64 x2] 80) := ⟨_, rfl⟩
      have hcl := searchPr_k (uni ltP l) x1 x2 a1 m c1 _ W1 (Kd.below HRr.out (by rw [hW1]; exact below_a1r _ _)) (uni_ris ltP_sto) hm
      have HQ : Hid (∀ q, ((x1, x2) ∈ uni ltP l → (uni ltP l)[q]? = some (x1, x2)) → q = rkP l k) := fun q hq => by
        have hxl : (x1, x2) ∈ l := List.mem_of_getElem? hx
        have e : l.getD k (0, 0) = (x1, x2) := by rw [List.getD_eq_getElem?_getD, hx]; rfl
        unfold rkP
        rw [e]
        exact ris_same ltP_sto.irr (uni_ris ltP_sto) (hq ((uni_mem ltP_sto).2 hxl)) (rkIn_at ltP_sto hxl)
      have k0 : (0 : Int) ≤ (k : Int) := by omega
      have k1 : (k : Int) < (n : Int) := by omega
      have k2 : (k : Int) < 120 := by omega
      have k3 : k < 120 := by omega
      have B1 : Below wr.heap.size wr W1 := by rw [hW1]; exact below_a1r _ _
      clear hx HSr
      go_wp2_with fail
      rw [← hW1]
      refine hcl.mono ?_
      rintro e w5 ⟨q, bb, rfl, hq, hb5⟩
      have zW1 := B1.size
      have HQ2 : Hid (q = rkP l k) := HQ.out q hq
      have HB5 : Hid (Below g W4 w5) := (HX.out.trans (B1.mono (by omega))).trans (hb5.mono (by omega))
      have HG5 : Hid (w5.heap[g]? = some (.cells (rkA (rkP l) k) 53)) := by show _ = _; rw [hb5.block g (by omega), B1.block g (by omega)]; exact HG.out
      have z5 := hb5.size
      have C5 : w5.cell? ⟨g, k, none⟩ = some (.int .i64 0) := by rw [cell_of_row _ _ _ _ _ _ HG5.out, rkA_at k3, if_neg (by omega)]
      have F5 : w5.frozen? ⟨g, k, none⟩ = false := by simp [World.frozen?, HG5.out]
      clear hq hb5 hcl HG HQ hW1
      go_wp2
      go_roundw
      case rel =>
        refine ⟨k + 1, by omega, by go_num, ?_, ?_⟩
        · show _ = _
          rw [heap_setCell_same _ _ _ _ _ _ HG5.out, HQ2.out, rkA_set]
        · exact HB5.out.setCell (by show g ≤ g; omega) _
      case measure => simp [intOf]; omega
    · obtain rfl : k = n := by omega
      have k1 : ¬ (k : Int) < (k : Int) := by omega
      have hld : (loadVar 53 ⟨g, 0, none⟩).run Try.prog wr = .ok (.agg (rkA (rkP l) k)) wr := run_loadVar_row wr g _ _ _ _ _ HG.out Try.underlying53 rfl (by rw [rkA_size]; exact HZS.out)
      have HB6 : Hid (Below W0.heap.size W0 wr) := HB4.out.trans (HX.out.mono zg0)
      have H6 : Hid (wr.heap[w.heap.size]? = some (.cells Z 53)) := by show _ = _; rw [HB6.out.block _ zw0]; exact H0.out
      have hst : (storeVar 53 ⟨w.heap.size, 0, none⟩ (.agg (rkA (rkP l) k))).run Try.prog wr = .ok () (wr.setRow w.heap.size (rkA (rkP l) k)) := run_storeVar_row wr _ _ _ _ _ H6.out (by rw [rkA_size]; exact HZS.out) (by rw [HZ.out, rkA_size, rkA_size]) (rkA_one _ _)
      have HL7 : Hid ((wr.setRow w.heap.size (rkA (rkP l) k)).heap[w.heap.size]? = some (.cells (rkA (rkP l) k) 53)) := set_row_same H6.out
      have HB7 : Hid (Below w.heap.size w (wr.setRow w.heap.size (rkA (rkP l) k))) := (B0.trans (HB6.out.mono B0.size)).trans ((set_row_kept wr w.heap.size _).below (by have := HB6.out.size; omega) (fun q hq e => by omega))
      have HE : Hid (rkA (rkP l) l.length = rkA (rkP l) k) := by show _ = _; rw [← HN.out]
      generalize wr.setRow w.heap.size (rkA (rkP l) k) = W7 at *
      obtain ⟨R, hR⟩ : ∃ R, R = rkA (rkP l) k := ⟨_, rfl⟩
      have hRs : R.size = 120 := by rw [hR, rkA_size]
      rw [← hR] at hld hst HL7 HE
      have hsc := store_cells (by rw [hRs]; exact HZS.out) hst
      clear hR hst
      go_wp2_with fail
      refine wp_load rfl rfl hld ?_
      go_wp2_with fail
      refine bodyPost_ret (v := .agg R) ?_ rfl ⟨by rw [HE.out], HB7.out⟩
      exact results_cell_row rfl _ _ w.heap.size _ R _ _ rfl HL7.out Try.underlying53 rfl (by rw [hRs]; exact HZS.out)
end Go.Proofs.Ytkboblfjchkedaa
