/- Pairs compacted by the library: slices.Compact. No condition but that they fit in memory. -/
import Derived.Test.YtkboblfjchkedaaSxQ
import Derived.Lib.SliceRun
import Derived.Test.YtkboblfjchkedaaAgEq
namespace Go.Proofs.Ytkboblfjchkedaa
open Go.RowKit Go.Sort Go.Lib
set_option linter.unusedVariables false

/-- Pairs in a row that may be written. -/
def PrAt (w : World) (b off : Nat) (d : Array (Int × Int)) : Prop := ∀ j, j < d.size → (w.cell? ⟨b, off + j * 2, none⟩ = some (.int .i64 d[j]!.1) ∧ w.cell? ⟨b, off + j * 2 + 1, none⟩ = some (.int .i64 d[j]!.2)) ∧ w.frozen? ⟨b, off + j * 2, none⟩ = false ∧ w.frozen? ⟨b, off + j * 2 + 1, none⟩ = false
theorem PrAt.of {w : World} {S : Nat → Prop} {b off n c : Nat} {l : List (Int × Int)} (h : (kRow kPr).is true w S [.slice (some ⟨b, off, none⟩) n c] l) : PrAt w b off l.toArray := by
  intro j hj
  have hx := toA (l := l) (i := j) (by simpa using hj)
  exact ⟨⟨kPr_plain.cell h hx (j := 0) rfl, kPr_plain.cell h hx (j := 1) rfl⟩, kPr_plain.open h hx (j := 0) rfl, kPr_plain.open h hx (j := 1) rfl⟩
theorem PrAt.below {w w' : World} {b off : Nat} {d : Array (Int × Int)} (h : PrAt w b off d) (hb : b < w.heap.size) (k : Below w.heap.size w w') : PrAt w' b off d := fun j hj =>
  ⟨⟨(k.cell hb).trans (h j hj).1.1, (k.cell hb).trans (h j hj).1.2⟩, (k.frozen hb).trans (h j hj).2.1, (k.frozen hb).trans (h j hj).2.2⟩
theorem setCells_kept (b : Nat) : ∀ (vs : List Value) (o : Nat) (w : World), KeptO (fun k => k = b) w (w.setCells b o vs)
  | [], o, w => KeptO.refl _ _
  | v :: r, o, w => by
    have h1 : KeptO (fun k => k = b) w (w.setCell ⟨b, o, none⟩ v) := ⟨rfl, rfl, rfl, by simp [World.setCell], fun k _ hk => Below.heap_setCell _ _ _ _ hk⟩
    exact h1.trans (setCells_kept b r (o + 1) _)
theorem frozen_setCells (b : Nat) : ∀ (vs : List Value) (o : Nat) (w : World) (x : Addr), (w.setCells b o vs).frozen? x = w.frozen? x
  | [], o, w, x => rfl
  | v :: r, o, w, x => by
    show ((w.setCell ⟨b, o, none⟩ v).setCells b (o + 1) r).frozen? x = _
    rw [frozen_setCells b r (o + 1) _ x, World.frozen?_setCell]
theorem PrAt.put {w : World} {b off k : Nat} {d : Array (Int × Int)} (h : PrAt w b off d) (x1 x2 : Int) (hk : k < d.size) : PrAt ((w.setCell ⟨b, off + k * 2, none⟩ (.int .i64 x1)).setCell ⟨b, off + k * 2 + 1, none⟩ (.int .i64 x2)) b off (d.setIfInBounds k (x1, x2)) := by
  intro j hj
  have hj' : j < d.size := by simpa using hj
  obtain ⟨⟨c1, c2⟩, f1, f2⟩ := h j hj'
  refine ⟨?_, by rw [World.frozen?_setCell, World.frozen?_setCell]; exact f1, by rw [World.frozen?_setCell, World.frozen?_setCell]; exact f2⟩
  by_cases e : j = k
  · subst e
    rw [getElem!_set_same d j (x1, x2) hj']
    constructor
    · rw [World.cell?_setCell_other _ _ _ _ (by intro e; injection e; omega)]
      exact World.cell?_setCell_same _ _ _ c1
    · refine World.cell?_setCell_same _ _ _ (u := .int .i64 d[j]!.2) ?_
      rw [World.cell?_setCell_other _ _ _ _ (by intro e; injection e; omega)]
      exact c2
  · rw [getElem!_set_other d k j (x1, x2) e]
    constructor
    · rw [World.cell?_setCell_other _ _ _ _ (by intro e; injection e; omega), World.cell?_setCell_other _ _ _ _ (by intro e; injection e; omega)]
      exact c1
    · rw [World.cell?_setCell_other _ _ _ _ (by intro e; injection e; omega), World.cell?_setCell_other _ _ _ _ (by intro e; injection e; omega)]
      exact c2
theorem setCell_kept (b o : Nat) (v : Value) (w : World) : KeptO (fun k => k = b) w (w.setCell ⟨b, o, none⟩ v) := ⟨rfl, rfl, rfl, by simp [World.setCell], fun k _ hk => Below.heap_setCell _ _ _ _ hk⟩
theorem zero_pairs (n : Nat) : (Builtin.zeroCells #[.int .i64 0, .int .i64 0] n).toList = List.replicate (n * 2) (.int .i64 0) := by
  apply List.ext_getElem
  · simp [Builtin.zeroCells]
  · intro i h1 h2
    simp only [Builtin.zeroCells, Array.toList_map, List.getElem_map, List.getElem_replicate]
    rcases (show i % 2 = 0 ∨ i % 2 = 1 by omega) with e | e <;> simp [e]
theorem run_clear_pairs (w : World) (ty : TypeId) (b o n c : Nat) (hn : 0 < n) (hc : ∀ j, j < n * 2 → (w.cell? ⟨b, o + j, none⟩).isSome = true) (hf : ∀ j, j < n * 2 → w.frozen? ⟨b, o + j, none⟩ = false) :
    (Builtin.clear_ #[78] ty #[.slice (some ⟨b, o, none⟩) n c]).run Try.prog w = .ok (.tuple #[]) (w.setCells b o (List.replicate (n * 2) (.int .i64 0))) := by
  have hst := run_storeCells_cells (P := Try.prog) b o (List.replicate (n * 2) (.int .i64 0)) 0 w (by simpa using hc) (by simpa using hf) (by intro v hv'; rw [List.eq_of_mem_replicate hv']; rfl)
  simp only [Nat.add_zero] at hst
  obtain ⟨m, rfl⟩ : ∃ m, n = m + 1 := ⟨n - 1, by omega⟩
  obtain ⟨i0, hi, hz0, hz1, hz2⟩ := info_parts infoPair
  have hv : ∀ w, (zeroValue 80).run Try.prog w = .ok (.agg #[.int .i64 0, .int .i64 0]) w := fun w => by simp [zeroValue, typeInfo, hi, hz0]
  have hcl : (Value.agg #[.int .i64 0, .int .i64 0]).cells = #[.int .i64 0, .int .i64 0] := rfl
  simp [Builtin.clear_, run_underlying Try.underlying78, hv, hcl, zero_pairs, hst]
theorem eql_pair (x1 x2 y1 y2 : Int) (w : World) : (binOp .eql 80 (.agg #[.int .i64 x1, .int .i64 x2]) (.agg #[.int .i64 y1, .int .i64 y2])).run Try.prog w = .ok (.bool (x1 == y1 && x2 == y2)) w := by
  have := run_eql_ints 80 3 2 [x1, x2] [y1, y2] w Try.underlying80 Try.underlying3 Try.sizeOf3 Try.isAgg3 rfl rfl
  have e : ([x1, x2] == [y1, y2]) = (x1 == y1 && x2 == y2) := by simp
  rw [e] at this
  exact this
theorem neq_pair (x1 x2 y1 y2 : Int) (w : World) : (binOp .neq 80 (.agg #[.int .i64 x1, .int .i64 x2]) (.agg #[.int .i64 y1, .int .i64 y2])).run Try.prog w = .ok (.bool (!(x1 == y1 && x2 == y2))) w := by
  have := run_neq_ints 80 3 2 [x1, x2] [y1, y2] w Try.underlying80 Try.underlying3 Try.sizeOf3 Try.isAgg3 rfl rfl
  have e : ([x1, x2] == [y1, y2]) = (x1 == y1 && x2 == y2) := by simp
  rw [e] at this
  exact this
theorem guard_pair : Try.prog.eqGuardType Try.prog.depth 80 = false := by kernel_rfl
theorem kept_mem {d : Array (Int × Int)} {m : Nat} {x : Int × Int} (hm : m ≤ d.size) (h : x ∈ compactUpTo d m) : x ∈ d.toList := by
  unfold compactUpTo at h
  obtain ⟨j, hj, rfl⟩ := List.mem_map.1 h
  have hj2 : j < m := by simpa using (List.mem_filter.1 hj).1
  rw [getElem!_pos d j (by omega)]
  simp

set_option maxRecDepth 100000 in
set_option maxHeartbeats 4000000 in
theorem compactPr_k (l : List (Int × Int)) (a : Option Addr) (n c : Nat) (S : Nat → Prop) (w : World) (h : (kRow kPr).is true w S [.slice a n c] l) (hl : l.length ≤ 2 ^ 20) :
    Calls Try.prog 79 #[.slice a n c] w fun e w' => ∃ m, e = .returned (.slice a m c) ∧ (kRow kPr).is true w' S [.slice a m c] (Lib.compact l) ∧ KeptO S w w' := by
  have hn := row_len h
  have hok := kPr_plain.oks h
  by_cases h2 : n < 2
  · have hall : Lib.compact l = l := compact_all l fun j hj => keeps_lt_one _ j (by omega)
    have HR : Hid ((kRow kPr).is true w S [.slice a n c] (Lib.compact l)) := by show (kRow kPr).is _ _ _ _ _; rw [hall]; exact h
    have i1 : (n : Int) < 2 := by omega
    clear h hn hok hall
    go_enter Try.func79, Try.ntmps79
    go_wp2
    go_ret
    exact ⟨n, rfl, HR.out, KeptO.refl _ _⟩
  obtain ⟨x0, hx0⟩ : ∃ x, l[0]? = some x := ⟨_, List.getElem?_eq_getElem (by omega)⟩
  obtain ⟨b, off, B, C, rfl, hb, hSb, _⟩ := row_at h hx0
  have hnc := row_cap h
  obtain ⟨d, hd⟩ : ∃ d, d = l.toArray := ⟨_, rfl⟩
  have HD : Hid (d = l.toArray) := hd
  have HDS : Hid (d.size = n) := by show _ = _; rw [hd, hn]; simp
  have HP : Hid (PrAt w b off d) := by show PrAt _ _ _ _; rw [hd]; exact PrAt.of h
  have HH : Hid ((kRow kPr).is true w S [.slice (some ⟨b, off, none⟩) n c] l) := h
  have HOK : Hid (∀ x ∈ l, IntOk x.1 ∧ IntOk x.2) := hok
  have HN : Hid (n = l.length) := hn
  have HSB : Hid (S b) := hSb
  have i1 : ¬ (n : Int) < 2 := by omega
  have hn20 : n ≤ 2 ^ 20 := by omega
  clear hd h hok hn hx0 hSb hl
  go_enter Try.func79, Try.ntmps79
  go_wp2_with fail
  go_loopw [3] (fun kv wr => ∃ k : Nat, 1 ≤ k ∧ k ≤ n ∧ kv = .int .i64 k ∧ Hid (∀ j, j < k → keeps d j = true) ∧ Below w.heap.size w wr) (fun kv _ => n - (intOf kv).toNat)
  case atStart => exact ⟨1, by omega, by omega, rfl, keeps_lt_one d, Below.refl _ _⟩
  case round =>
    obtain ⟨k, hk1, hk, rfl, HA, hnx⟩ := hrel
    have zw := hnx.size
    by_cases hlt : k < n
    · obtain ⟨p, rfl⟩ : ∃ p, k = p + 1 := ⟨k - 1, by omega⟩
      obtain ⟨⟨cx1, cx2⟩, _⟩ := (HP.out.below hb hnx) (p + 1) (by rw [HDS.out]; omega)
      obtain ⟨⟨cy1, cy2⟩, _⟩ := (HP.out.below hb hnx) p (by rw [HDS.out]; omega)
      obtain ⟨⟨x1, x2⟩, hx⟩ : ∃ x, x = d[p + 1]! := ⟨_, rfl⟩
      obtain ⟨⟨y1, y2⟩, hy⟩ : ∃ x, x = d[p]! := ⟨_, rfl⟩
      rw [← hx] at cx1 cx2
      rw [← hy] at cy1 cy2
      have HX : Hid (d[p + 1]! = (x1, x2)) := hx.symm
      have HY : Hid (d[p]! = (y1, y2)) := hy.symm
      have U0 := fun q => BelowOf.cell cx1 q
      have U1 := fun q => BelowOf.cell cx2 q
      have U2 := fun q => BelowOf.cell cy1 q
      have U3 := fun q => BelowOf.cell cy2 q
      have hne := belowOf_ne wr
      have e0 : (0 : Int) ≤ ((p + 1 : Nat) : Int) := by omega
      have e1 : ((p + 1 : Nat) : Int) < (n : Int) := by omega
      have e2 : ((p + 1 : Nat) : Int) - 1 = (p : Int) := by omega
      have e3 : (p : Int) < (n : Int) := by omega
      have e4 : (0 : Int) ≤ (p : Int) := by omega
      clear hx hy cx1 cx2 cy1 cy2
      have hgp := guard_pair
      have e5 : ((p + 1 : Nat) : Int) ≤ (c : Int) := by omega
      have e6 : ((p + 1 : Nat) : Int) ≤ (n : Int) := by omega
      by_cases hdup : x1 = y1 ∧ x2 = y2
      · obtain ⟨rfl, rfl⟩ := hdup
        have hee : ∀ w, (binOp .eql 80 (.agg #[.int .i64 x1, .int .i64 x2]) (.agg #[.int .i64 x1, .int .i64 x2])).run Try.prog w = .ok (.bool true) w := fun w => by rw [eql_pair]; simp
        have HS : Hid (CompInv d (p + 1 + 1) (p + 1) d) := CompInv.start HA.out (keeps_neg (by omega) (by rw [HX.out, show p + 1 - 1 = p by omega, HY.out]))
        clear HA HX HY
        go_wp2_with fail
        refine region_below (by kernel_rfl) (by kernel_rfl) ?_
        repeat (go_big_quiet_step (first | fail))
        refine wpQuiet_nil (belowOf_all ?_)
        intro w2 hb2
        have HB2 : Hid (Below w.heap.size w w2) := hnx.trans (hb2.mono zw)
        clear U0 U1 U2 U3 hne hb2 hnx
        obtain ⟨r, hr⟩ : ∃ r, r = n - (p + 1) := ⟨_, rfl⟩
        have hr1 : (n : Int) - ((p + 1 : Nat) : Int) = (r : Int) := by omega
        go_wp2_with fail
        clear hr hr1
        go_loopw [3, 5] (fun s3 s5 wr => ∃ (kk k2 : Nat) (dk : Array (Int × Int)), s3 = .int .i64 kk ∧ s5 = .int .i64 (k2 + 1 : Nat) ∧ p + 1 + (k2 + 1) ≤ n ∧ kk < p + 1 + (k2 + 1) ∧ Hid (CompInv d (p + 1 + (k2 + 1)) kk dk) ∧ Hid (PrAt wr b off dk) ∧ Hid (KeptO (fun k => k = b) w wr)) (fun _ s5 _ => n - (intOf s5).toNat)
        case atStart => exact ⟨p + 1, 0, d, by go_num, rfl, by omega, by omega, HS, HP.out.below hb HB2.out, KeptO.of HB2.out⟩
        case round =>
          obtain ⟨kk, k2, dk, rfl, rfl, hle, hkk, HI, HQ, HK⟩ := hrel
          have hds : dk.size = n := by rw [HI.out.size, HDS.out]
          have HDK : Hid (dk.size = n) := hds
          by_cases hlt2 : p + 1 + (k2 + 1) < n
          · obtain ⟨⟨cx1, cx2⟩, _⟩ := HQ.out (p + 1 + (k2 + 1)) (by omega)
            obtain ⟨⟨cy1, cy2⟩, _⟩ := HQ.out (p + 1 + k2) (by omega)
            obtain ⟨⟨co1, co2⟩, fo1, fo2⟩ := HQ.out kk (by omega)
            rw [HI.out.high _ (by omega), show off + (p + 1 + (k2 + 1)) * 2 = off + (p + 1) * 2 + (k2 + 1) * 2 by omega] at cx1 cx2
            rw [HI.out.high _ (by omega), show off + (p + 1 + k2) * 2 = off + (p + 1) * 2 + k2 * 2 by omega] at cy1 cy2
            obtain ⟨⟨u1, u2⟩, hx⟩ : ∃ x, x = d[p + 1 + (k2 + 1)]! := ⟨_, rfl⟩
            obtain ⟨⟨v1, v2⟩, hy⟩ : ∃ x, x = d[p + 1 + k2]! := ⟨_, rfl⟩
            rw [← hx] at cx1 cx2
            rw [← hy] at cy1 cy2
            have HX : Hid (d[p + 1 + (k2 + 1)]! = (u1, u2)) := hx.symm
            have HY : Hid (d[p + 1 + (k2 + 1) - 1]! = (v1, v2)) := by show _ = _; rw [show p + 1 + (k2 + 1) - 1 = p + 1 + k2 by omega]; exact hy.symm
            clear hx hy hds
            generalize dk[kk]!.1 = o1 at *
            generalize dk[kk]!.2 = o2 at *
            have U0 := fun q => BelowOf.cell cx1 q
            have U1 := fun q => BelowOf.cell cx2 q
            have U2 := fun q => BelowOf.cell cy1 q
            have U3 := fun q => BelowOf.cell cy2 q
            have hne := belowOf_ne wr
            have j0 : (0 : Int) ≤ ((k2 + 1 : Nat) : Int) := by omega
            have j1 : ((k2 + 1 : Nat) : Int) < ((n - (p + 1) : Nat) : Int) := by omega
            have j2 : ((k2 + 1 : Nat) : Int) - 1 = (k2 : Int) := by omega
            have j3 : (0 : Int) ≤ (k2 : Int) := by omega
            have j4 : (k2 : Int) < ((n - (p + 1) : Nat) : Int) := by omega
            have j5 : (0 : Int) ≤ (kk : Int) := by omega
            have j6 : (kk : Int) < (n : Int) := by omega
            by_cases huv : u1 = v1 ∧ u2 = v2
            · obtain ⟨rfl, rfl⟩ := huv
              have hee2 : ∀ w, (binOp .neq 80 (.agg #[.int .i64 u1, .int .i64 u2]) (.agg #[.int .i64 u1, .int .i64 u2])).run Try.prog w = .ok (.bool false) w := fun w => by rw [neq_pair]; simp
              have HI2 : Hid (CompInv d (p + 1 + (k2 + 1 + 1)) kk dk) := HI.out.skip (keeps_neg (by omega) (by rw [HX.out, HY.out]))
              go_wp2_with fail
              refine region_below (by kernel_rfl) (by kernel_rfl) ?_
              repeat (go_big_quiet_step (first | fail))
              refine wpQuiet_nil (belowOf_all ?_)
              intro w3 hb3
              have hbw : b < wr.heap.size := World.block_lt_of_cell? _ _ co1
              go_wp2
              go_roundw
              case rel => exact ⟨kk, k2 + 1, dk, by trivial, by go_num, by omega, by omega, HI2, HQ.out.below hbw hb3, HK.out.trans (KeptO.of hb3)⟩
              case measure => simp [intOf]; omega
            · have hne2 : (u1 == v1 && u2 == v2) = false := by
                cases q : (u1 == v1 && u2 == v2) with
                | false => rfl
                | true => simp at q; exact absurd q huv
              have hee2 : ∀ w, (binOp .neq 80 (.agg #[.int .i64 u1, .int .i64 u2]) (.agg #[.int .i64 v1, .int .i64 v2])).run Try.prog w = .ok (.bool true) w := fun w => by rw [neq_pair, hne2]; rfl
              have HI2 : Hid (CompInv d (p + 1 + (k2 + 1 + 1)) (kk + 1) (dk.setIfInBounds kk (u1, u2))) := by
                have := HI.out.keep (by rw [HDS.out]; omega) (keeps_pos (by rw [HX.out, HY.out]; intro e; injection e with e1 e2; exact huv ⟨e1, e2⟩))
                rw [HX.out] at this
                exact this
              go_wp2_with fail
              refine region_below (by kernel_rfl) (by kernel_rfl) ?_
              repeat (go_big_quiet_step (first | fail))
              refine wpQuiet_nil (belowOf_all ?_)
              intro w3 hb3
              have hbw : b < wr.heap.size := World.block_lt_of_cell? _ _ co1
              have HQ3 : Hid (PrAt w3 b off dk) := HQ.out.below hbw hb3
              have d1 := (hb3.cell hbw).trans cx1
              have d2 := (hb3.cell hbw).trans cx2
              have d3 := (hb3.cell hbw).trans co1
              have d4 := (hb3.cell hbw).trans co2
              have d5 := (hb3.frozen hbw).trans fo1
              have d6 := (hb3.frozen hbw).trans fo2
              have hb3w : b < w3.heap.size := by have := hb3.size; omega
              clear U0 U1 U2 U3 hne cx1 cx2 cy1 cy2 co1 co2 fo1 fo2
              go_wp2
              go_roundw
              case rel =>
                refine ⟨kk + 1, k2 + 1, dk.setIfInBounds kk (u1, u2), by go_num, by go_num, by omega, by omega, HI2, HQ3.out.put u1 u2 (by rw [HDK.out]; omega), ?_⟩
                exact (HK.out.trans (KeptO.of hb3)).trans ((setCell_kept _ _ _ _).trans (setCell_kept _ _ _ _))
              case measure => simp [intOf]; omega
          · obtain ⟨q, rfl⟩ : ∃ q, n = p + 1 + (k2 + 1) := ⟨0, by omega⟩
            have j1 : ¬ ((k2 + 1 : Nat) : Int) < ((p + 1 + (k2 + 1) - (p + 1) : Nat) : Int) := by omega
            have hcell : ∀ j, j < (p + 1 + (k2 + 1) - kk) * 2 → (wr.cell? ⟨b, off + kk * 2 + j, none⟩).isSome = true ∧ wr.frozen? ⟨b, off + kk * 2 + j, none⟩ = false := by
              intro j hj
              obtain ⟨⟨c1, c2⟩, f1, f2⟩ := HQ.out (kk + j / 2) (by rw [HDK.out]; omega)
              rcases (show j % 2 = 0 ∨ j % 2 = 1 by omega) with e | e
              · rw [show off + (kk + j / 2) * 2 = off + kk * 2 + j by omega] at c1 f1
                exact ⟨by rw [c1]; rfl, f1⟩
              · rw [show off + (kk + j / 2) * 2 + 1 = off + kk * 2 + j by omega] at c2 f2
                exact ⟨by rw [c2]; rfl, f2⟩
            have hcl : ∀ ty, (Builtin.clear_ #[78] ty #[.slice (some ⟨b, off + kk * 2, none⟩) (p + 1 + (k2 + 1) - kk) (c - kk)]).run Try.prog wr = .ok (.tuple #[]) (wr.setCells b (off + kk * 2) (List.replicate ((p + 1 + (k2 + 1) - kk) * 2) (.int .i64 0))) :=
              fun ty => run_clear_pairs wr ty b (off + kk * 2) _ _ (by omega) (fun j hj => (hcell j hj).1) (fun j hj => (hcell j hj).2)
            have hzb : b < wr.heap.size := by
              obtain ⟨⟨c1, _⟩, _⟩ := HQ.out 0 (by rw [HDK.out]; omega)
              exact World.block_lt_of_cell? _ _ c1
            have HLEN : Hid (d = l.toArray ∧ (compactUpTo d d.size).length = kk) := ⟨HD.out, by have := HI.out.len; rw [HDS.out]; exact this⟩
            have HCO : Hid (Lib.compact l = compactUpTo d d.size) := by
              show Lib.compact l = _
              unfold Lib.compact
              rw [HD.out]
              simp
            have HSH : Hid ((kRow kPr).is true (wr.setCells b (off + kk * 2) (List.replicate ((p + 1 + (k2 + 1) - kk) * 2) (.int .i64 0))) S [.slice (some ⟨b, off, none⟩) kk c] (Lib.compact l)) := by
              show (kRow kPr).is _ _ _ _ _
              rw [HCO.out]
              refine kPr_plain.shut (fun i x hx j v hj => ?_) (by rw [size_setCells]; exact hzb) HSB.out HLEN.out.2.symm (by omega) (by rw [HLEN.out.2]; omega) (fun x hx => HOK.out x (by have := kept_mem (Nat.le_refl _) hx; rw [HD.out] at this; simpa using this))
              have hi : i < kk := by have := (List.getElem?_eq_some_iff.1 hx).1; rw [HLEN.out.2] at this; exact this
              have hlow := HI.out.low i hi
              rw [show p + 1 + (k2 + 1) = d.size from HDS.out.symm, hx] at hlow
              injection hlow with hlow
              obtain ⟨⟨c1, c2⟩, f1, f2⟩ := HQ.out i (by rw [HDK.out]; omega)
              rw [← hlow] at c1 c2
              have hwd : kPr.wd = 2 := rfl
              rw [hwd, World.cell?_setCells_out b _ _ _ _ (fun _ _ => .inl (by show off + i * 2 + j < _; have : j < 2 := (List.getElem?_eq_some_iff.1 hj).1; omega)), World.frozen?_setCells]
              match j, hj with
              | 0, hj => have e : Value.int .i64 x.1 = v := by simpa [prC] using hj
                         rw [← e]; exact ⟨c1, f1⟩
              | 1, hj => have e : Value.int .i64 x.2 = v := by simpa [prC] using hj
                         rw [← e]; exact ⟨c2, f2⟩
              | j + 2, hj => simp [prC] at hj
            have HKK : Hid (KeptO S w (wr.setCells b (off + kk * 2) (List.replicate ((p + 1 + (k2 + 1) - kk) * 2) (.int .i64 0)))) := (HK.out.trans (setCells_kept b _ _ _)).mono fun k hk => hk ▸ HSB.out
            generalize wr.setCells b (off + kk * 2) (List.replicate ((p + 1 + (k2 + 1) - kk) * 2) (.int .i64 0)) = W9 at *
            have j7 : (kk : Int) ≤ (c : Int) := by omega
            go_wp2
            go_ret
            exact ⟨kk, rfl, HSH.out, HKK.out⟩
      · have hne1 : (x1 == y1 && x2 == y2) = false := by
          cases q : (x1 == y1 && x2 == y2) with
          | false => rfl
          | true => simp at q; exact absurd q hdup
        have hee : ∀ w, (binOp .eql 80 (.agg #[.int .i64 x1, .int .i64 x2]) (.agg #[.int .i64 y1, .int .i64 y2])).run Try.prog w = .ok (.bool false) w := fun w => by rw [eql_pair, hne1]
        have HK : Hid (∀ j, j < p + 1 + 1 → keeps d j = true) := fun j hj => by
          by_cases e : j = p + 1
          · subst e
            refine keeps_pos ?_
            rw [HX.out, show p + 1 - 1 = p by omega, HY.out]
            intro e
            injection e with e1 e2
            exact hdup ⟨e1, e2⟩
          · exact HA.out j (by omega)
        go_wp2_with fail
        refine region_below (by kernel_rfl) (by kernel_rfl) ?_
        repeat (go_big_quiet_step (first | fail))
        refine wpQuiet_nil (belowOf_all ?_)
        intro w2 hb2
        go_wp2
        go_roundw
        case rel => exact ⟨p + 1 + 1, by omega, by omega, by go_num, HK, hnx.trans (hb2.mono zw)⟩
        case measure => simp [intOf]; omega
    · obtain rfl : k = n := by omega
      have k1 : ¬ (k : Int) < (k : Int) := by omega
      have HR : Hid ((kRow kPr).is true wr S [.slice (some ⟨b, off, none⟩) k c] (Lib.compact l)) := by
        show (kRow kPr).is _ _ _ _ _
        rw [compact_all l fun j hj => by have := HA.out j (by rw [HN.out]; exact hj); rwa [HD.out] at this]
        exact Kd.below HH.out hnx
      go_wp2
      go_ret
      exact ⟨k, rfl, HR.out, KeptO.of hnx⟩
end Go.Proofs.Ytkboblfjchkedaa
