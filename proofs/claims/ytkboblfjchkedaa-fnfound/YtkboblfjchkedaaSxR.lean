/- The ranks of texts among each other, in an array. No condition but that there are no more than 120. -/
import Derived.Test.YtkboblfjchkedaaSxB
import Derived.Deep.WholeRow
namespace Go.Proofs.Ytkboblfjchkedaa
open Go.RowKit
set_option linter.unusedVariables false

/-- The ranks of the first k places, behind them nothing. -/
def rkA (r : Nat → Nat) (k : Nat) : Array Value := ((List.range 120).map fun i => Value.int .i64 (if i < k then (r i : Int) else 0)).toArray
theorem rkA_size (r : Nat → Nat) (k : Nat) : (rkA r k).size = 120 := by simp [rkA]
theorem rkA_at {r : Nat → Nat} {k i : Nat} (h : i < 120) : (rkA r k)[i]? = some (.int .i64 (if i < k then (r i : Int) else 0)) := by
  simp [rkA, h]
theorem rkA_set (r : Nat → Nat) (k : Nat) : (rkA r k).setIfInBounds k (.int .i64 (r k)) = rkA r (k + 1) := by
  refine Array.ext_getElem? fun i => ?_
  rw [Array.getElem?_setIfInBounds]
  by_cases hi : i < 120
  · rw [rkA_at hi, rkA_at hi, rkA_size]
    by_cases e : k = i
    · subst e; simp [hi]
    · rw [if_neg e]
      by_cases c : i < k
      · rw [if_pos c, if_pos (by omega)]
      · rw [if_neg c, if_neg (by omega)]
  · have h1 : (rkA r k)[i]? = none := by rw [Array.getElem?_eq_none_iff, rkA_size]; omega
    have h2 : (rkA r (k + 1))[i]? = none := by rw [Array.getElem?_eq_none_iff, rkA_size]; omega
    rw [h1, h2, rkA_size]
    split
    · rw [if_neg (by omega)]
    · rfl
theorem rkA_one (r : Nat → Nat) (k : Nat) : (rkA r k).all (·.oneCell') = true := by
  rw [Array.all_eq_true_iff_forall_mem]
  intro v hv
  simp only [rkA, List.mem_toArray, List.mem_map] at hv
  obtain ⟨i, _, rfl⟩ := hv
  rfl
theorem rkA_zero (r : Nat → Nat) : rkA r 0 = Array.replicate 120 (.int .i64 0) := by
  refine Array.ext_getElem? fun i => ?_
  by_cases hi : i < 120
  · rw [rkA_at hi]
    simp [hi]
  · rw [Array.getElem?_eq_none_iff.2 (by rw [rkA_size]; omega), Array.getElem?_eq_none_iff.2 (by simp; omega)]
theorem rkA_ext {r r' : Nat → Nat} {k : Nat} (h : ∀ i, i < k → r i = r' i) : rkA r k = rkA r' k := by
  unfold rkA
  congr 1
  refine List.map_congr_left fun i _ => ?_
  by_cases c : i < k
  · rw [if_pos c, if_pos c, h i c]
  · rw [if_neg c, if_neg c]
theorem info_pr : (Try.prog.info? 53).map (fun i => (i.zero, i.size)) = some (some (.agg (Array.replicate 120 (.int .i64 0))), 120) := by kernel_rfl
theorem set_row_kept (w : World) (g : Nat) (c : Array Value) : KeptO (fun k => k = g) w (w.setRow g c) := by
  refine ⟨rfl, rfl, rfl, by simp [World.setRow], fun k hk hn => ?_⟩
  simp only [World.setRow]
  rw [Array.getElem?_modify, if_neg (fun e => hn e.symm)]
theorem set_row_same {w : World} {g : Nat} {c c' : Array Value} {t : TypeId} {fr : Nat × Nat} (h : w.heap[g]? = some (.cells c t fr)) : (w.setRow g c').heap[g]? = some (.cells c' t fr) := by
  simp only [World.setRow]
  rw [Array.getElem?_modify, if_pos rfl, h]
  rfl

theorem wp_load {o : Oper} {a : Act} {w : World} {K : Act → World → Prop} {Q : Exit → Act → World → Prop} {t : TypeId} {p : Operand} {g : Nat} {v : Value} (ho : o.op = .load t p) (hp : a.eval p = .pointer (some ⟨g, 0, none⟩)) (hl : (loadVar t ⟨g, 0, none⟩).run Try.prog w = .ok v w) (h : K (a.put o.dst v) w) : Oper.wp Try.prog o a w K Q := by
  unfold Oper.wp execOp
  simp only [ho, hp, Instr.loadAt, Instr.sureAddr, Sem.run_bind, Sem.run_pure, Result.andThen_ok, hl]
  exact h
theorem wp_store {o : Oper} {a : Act} {w w' : World} {K : Act → World → Prop} {Q : Exit → Act → World → Prop} {t : TypeId} {p x : Operand} {g : Nat} {v : Value} (ho : o.op = .store t p x) (hp : a.eval p = .pointer (some ⟨g, 0, none⟩)) (hx : a.eval x = v) (hl : (storeVar t ⟨g, 0, none⟩ v).run Try.prog w = .ok () w') (h : K (a.put o.dst undef) w') : Oper.wp Try.prog o a w K Q := by
  unfold Oper.wp execOp
  simp only [ho, hp, hx, Instr.storeAt, Instr.sureAddr, Sem.run_bind, Sem.run_pure, Result.andThen_ok, hl]
  rw [Oper.upon_skip]
  exact h

theorem store_cells {w w' : World} {g : Nat} {R : Array Value} (hi : (Try.prog.info? 53).map (·.size) = some R.size) (h : (storeVar 53 ⟨g, 0, none⟩ (.agg R)).run Try.prog w = .ok () w') : (storeCells ⟨g, 0, none⟩ R.toList).run Try.prog w = .ok () w' := by
  cases hq : Try.prog.info? 53 with
  | none => simp [hq] at hi
  | some i =>
    have hs : R.size = i.size := by simp [hq] at hi; omega
    simpa [storeVar, sizeOf, typeInfo, hq, Value.cells, hs] using h

/-- The rank of each place of a list. -/
def rkL (l : List (List UInt8)) (i : Nat) : Nat := rkIn bl l (l.getD i [])
set_option maxRecDepth 100000 in
set_option maxHeartbeats 4000000 in
theorem ranksTx_k (l : List (List UInt8)) (a : Option Addr) (n c : Nat) (S : Nat → Prop) (w : World) (h : (kRow kTx).is false w S [.slice a n c] l) (hl : l.length ≤ 120) :
    Calls Try.prog 57 #[.slice a n c, .func (.func 58) #[] #[]] w fun e w' => e = .returned (.agg (rkA (rkL l) l.length)) ∧ Below w.heap.size w w' := by
  obtain ⟨zv, zs⟩ := zero_of_info info_pr
  have HN : Hid (n = l.length) := row_len h
  have hn120 : n ≤ 120 := by rw [HN.out]; exact hl
  have HL : Hid (l.length ≤ 120) := hl
  obtain ⟨Z, hZ⟩ : ∃ Z : Array Value, Z = Array.replicate 120 (.int .i64 0) := ⟨_, rfl⟩
  rw [← hZ] at zv
  have HZ : Hid (Z = rkA (rkL l) 0) := by show _ = _; rw [rkA_zero, hZ]
  have HZS : Hid ((Try.prog.info? 53).map (·.size) = some 120) := zs
  obtain ⟨W0, hW0⟩ : ∃ W0, W0 = w.alloc (.cells Z 53) := ⟨_, rfl⟩
  have B0 : Below w.heap.size w W0 := by rw [hW0]; exact below_a1r _ _
  have H0 : Hid (W0.heap[w.heap.size]? = some (.cells Z 53)) := by show _ = _; rw [hW0]; exact heap_alloc_last _ _
  have Z0 : W0.heap.size = w.heap.size + 1 := by rw [hW0]; simp
  have HR : Hid ((kRow kTx).is false W0 S [.slice a n c] l) := Kd.below h B0
  have HRW : Hid ((kRow kTx).is false w S [.slice a n c] l) := h
  clear h hl hZ zs
  go_enter Try.func57, Try.ntmps57
  go_wp2_with fail
  rw [← hW0]
  refine (cloneTx_k l a n c S W0 HR.out (by have := HL.out; omega)).mono ?_
  rintro e w1 ⟨a1, c1, rfl, hr1, hb1⟩
  have HR1 : Hid ((kRow kTx).is true w1 (fun k => W0.heap.size ≤ k) [.slice a1 n c1] l) := hr1
  have HB1 : Hid (Below W0.heap.size W0 w1) := hb1
  have z1 := hb1.size
  clear hr1 hb1 hW0
  go_wp2_with fail
  refine (sortTx_k l a1 n c1 _ w1 HR1.out (by have := HL.out; omega)).mono ?_
  rintro e w2 ⟨rfl, hr2, hk2⟩
  have HR2 : Hid ((kRow kTx).is true w2 (fun k => W0.heap.size ≤ k) [.slice a1 n c1] (srtT l)) := hr2
  have HB2 : Hid (Below W0.heap.size W0 w2) := HB1.out.trans (hk2.below z1 (fun k hk h => by omega))
  have z2 := HB2.out.size
  clear hr2 hk2 HR1 HB1
  go_wp2_with fail
  refine (compactTx_k (srtT l) a1 n c1 _ w2 HR2.out (by have := HL.out; have : (srtT l).length = l.length := (List.mergeSort_perm l _).length_eq; omega)).mono ?_
  rintro e w3 ⟨m, rfl, hr3, hk3⟩
  have hU : Lib.compact (srtT l) = uni bl l := sort_uni bl_sto cmpT_lt l
  rw [hU] at hr3
  have HB3 : Hid (Below W0.heap.size W0 w3) := HB2.out.trans (hk3.below z2 (fun k hk h => by omega))
  have z3 := HB3.out.size
  obtain ⟨g, hg⟩ : ∃ g, g = w3.heap.size := ⟨_, rfl⟩
  obtain ⟨W4, hW4⟩ : ∃ W4, W4 = w3.alloc (.cells Z 53) := ⟨_, rfl⟩
  have B4 : Below g w3 W4 := by rw [hW4, hg]; exact below_a1r _ _
  have H4 : Hid (W4.heap[g]? = some (.cells (rkA (rkL l) 0) 53)) := by show _ = _; rw [hW4, hg, ← HZ.out]; exact heap_alloc_last _ _
  have z4 : W4.heap.size = g + 1 := by rw [hW4, hg]; simp
  have HR4 : Hid ((kRow kTx).is false W4 (fun k => k < g) [.slice a1 m c1] (uni bl l)) := Kd.below ((kRow kTx).tight ((kRow kTx).read hr3) (fun k hk _ => by omega)) (by rw [← hg]; exact B4)
  have HB4 : Hid (Below W0.heap.size W0 W4) := HB3.out.trans (B4.mono (by omega))
  have HS4 : Hid ((kRow kTx).is false W4 (fun k => k < g) [.slice a n c] l) := Kd.below ((kRow kTx).tight HR.out (fun k hk _ => by show k < g; omega)) HB4.out
  have hm : m ≤ 2 ^ 30 := by have := row_len hr3; have := uni_len (lt := bl) l; have := HL.out; omega
  clear hr3 hk3 HR2 HB2 hU B4
  go_wp2_with fail
  rw [← hW4, ← hg]
  have zg : g < W4.heap.size := by omega
  have zg0 : W0.heap.size ≤ g := by omega
  have zw0 : w.heap.size < W0.heap.size := by omega
  clear hW4 hg z4 Z0 z3 z2 z1
  go_loopw [18] (fun kv wr => ∃ k : Nat, k ≤ n ∧ kv = .int .i64 k ∧ Hid (wr.heap[g]? = some (.cells (rkA (rkL l) k) 53)) ∧ Hid (Below g W4 wr)) (fun kv _ => n - (intOf kv).toNat)
  case atStart => exact ⟨0, Nat.zero_le _, rfl, H4, Below.refl _ _⟩
  case round =>
    obtain ⟨k, hk, rfl, HG, HX⟩ := hrel
    have zr := HX.out.size
    by_cases hlt : k < n
    · obtain ⟨x, hx⟩ : ∃ x, l[k]? = some x := ⟨_, List.getElem?_eq_getElem (by rw [← HN.out]; exact hlt)⟩
      have HSr : (kRow kTx).is false wr (fun k => k < g) [.slice a n c] l := (kRow kTx).keep HS4.out zr (fun q _ hq => HX.out.block q hq)
      have HRr : Hid ((kRow kTx).is false wr (fun k => k < g) [.slice a1 m c1] (uni bl l)) := (kRow kTx).keep HR4.out zr (fun q _ hq => HX.out.block q hq)
      obtain ⟨b, off, B, C, rfl, hb, _⟩ := row_at HSr hx
      have A0 : wr.cell? ⟨b, off + k, none⟩ = some (encStr x) := by
        have := kTx_plain.cell HSr hx (j := 0) rfl
        rw [show off + k * kTx.wd + 0 = off + k by show off + k * 1 + 0 = _; omega] at this
        exact this
      have hcl := searchTx_k (uni bl l) x a1 m c1 _ wr HRr.out (uni_ris bl_sto) hm
      have HQ : Hid (∀ q, (x ∈ uni bl l → (uni bl l)[q]? = some x) → q = rkL l k) := fun q hq => by
        have hxl : x ∈ l := List.mem_of_getElem? hx
        have e : l.getD k [] = x := by rw [List.getD_eq_getElem?_getD, hx]; rfl
        unfold rkL
        rw [e]
        exact ris_same bl_irr (uni_ris bl_sto) (hq ((uni_mem bl_sto).2 hxl)) (rkIn_at bl_sto hxl)
      obtain ⟨X, hX⟩ : ∃ X, X = encStr x := ⟨_, rfl⟩
      rw [← hX] at A0 hcl
      have k0 : (0 : Int) ≤ (k : Int) := by omega
      have k1 : (k : Int) < (n : Int) := by omega
      have k2 : (k : Int) < 120 := by omega
      have k3 : k < 120 := by omega
      clear hx hX HSr
      go_wp2_with fail
      refine hcl.mono ?_
      rintro e w5 ⟨q, bb, rfl, hq, hb5⟩
      have HQ2 : Hid (q = rkL l k) := HQ.out q hq
      have HB5 : Hid (Below g W4 w5) := HX.out.trans (hb5.mono (by omega))
      have HG5 : Hid (w5.heap[g]? = some (.cells (rkA (rkL l) k) 53)) := by show _ = _; rw [hb5.block g (by omega)]; exact HG.out
      have z5 := hb5.size
      have C5 : w5.cell? ⟨g, k, none⟩ = some (.int .i64 0) := by rw [cell_of_row _ _ _ _ _ _ HG5.out, rkA_at k3, if_neg (by omega)]
      have F5 : w5.frozen? ⟨g, k, none⟩ = false := by simp [World.frozen?, HG5.out]
      clear hq hb5 hcl HG HQ
      go_wp2
      go_roundw
      case rel =>
        refine ⟨k + 1, by omega, by go_num, ?_, ?_⟩
        · show _ = _
          rw [heap_setCell_same _ _ _ _ _ _ HG5.out, HQ2.out, rkA_set]
        · exact HB5.out.setCell (by show g ≤ g; omega) _
      case measure => simp [intOf]; omega
    · obtain rfl : k = n := by omega
      have k1 : ¬ (k : Int) < (k : Int) := by omega
      have hld : (loadVar 53 ⟨g, 0, none⟩).run Try.prog wr = .ok (.agg (rkA (rkL l) k)) wr := run_loadVar_row wr g _ _ _ _ _ HG.out Try.underlying53 rfl (by rw [rkA_size]; exact HZS.out)
      have HB6 : Hid (Below W0.heap.size W0 wr) := HB4.out.trans (HX.out.mono zg0)
      have H6 : Hid (wr.heap[w.heap.size]? = some (.cells Z 53)) := by show _ = _; rw [HB6.out.block _ zw0]; exact H0.out
      have hst : (storeVar 53 ⟨w.heap.size, 0, none⟩ (.agg (rkA (rkL l) k))).run Try.prog wr = .ok () (wr.setRow w.heap.size (rkA (rkL l) k)) := run_storeVar_row wr _ _ _ _ _ H6.out (by rw [rkA_size]; exact HZS.out) (by rw [HZ.out, rkA_size, rkA_size]) (rkA_one _ _)
      have HL7 : Hid ((wr.setRow w.heap.size (rkA (rkL l) k)).heap[w.heap.size]? = some (.cells (rkA (rkL l) k) 53)) := set_row_same H6.out
      have HB7 : Hid (Below w.heap.size w (wr.setRow w.heap.size (rkA (rkL l) k))) := (B0.trans (HB6.out.mono B0.size)).trans ((set_row_kept wr w.heap.size _).below (by have := HB6.out.size; omega) (fun q hq e => by omega))
      have HE : Hid (rkA (rkL l) l.length = rkA (rkL l) k) := by show _ = _; rw [← HN.out]
      generalize wr.setRow w.heap.size (rkA (rkL l) k) = W7 at *
      obtain ⟨R, hR⟩ : ∃ R, R = rkA (rkL l) k := ⟨_, rfl⟩
      have hRs : R.size = 120 := by rw [hR, rkA_size]
      rw [← hR] at hld hst HL7 HE
      have hsc := store_cells (by rw [hRs]; exact HZS.out) hst
      clear hR hst
      go_wp2_with fail
      refine wp_load rfl rfl hld ?_
      go_wp2_with fail
      refine bodyPost_ret (v := .agg R) ?_ rfl ⟨by rw [HE.out], HB7.out⟩
      exact results_cell_row rfl _ _ w.heap.size _ R _ _ rfl HL7.out Try.underlying53 rfl (by rw [hRs]; exact HZS.out)
end Go.Proofs.Ytkboblfjchkedaa
