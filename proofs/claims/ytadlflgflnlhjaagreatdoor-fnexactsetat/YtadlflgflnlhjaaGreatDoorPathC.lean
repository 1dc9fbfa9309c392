/- The names of a path: the program's PathOf. The names of a path: the specification. The names of a path, and their list has room for them: the program's PathOf. -/
import Derived.Test.YtadlflgflnlhjaaGreatDoorNamesIt
import Derived.Test.YtadlflgflnlhjaaGreatDoorStrs0
import Derived.Maps.AppendAt
import Derived.Test.YtadlflgflnlhjaaGreatDoorQuote
namespace Go.Proofs.YtadlflgflnlhjaaGreatDoor
open Go.RowKit Go.Shelf
set_option linter.unusedVariables false
attribute [local go_sem] Oper.semAt_some

/-- The names, as texts. -/
def namesF (s : List UInt8) : Nat → ByteArray := fun j => strL (((namesL s).getD []).getD j [])
def namesN (s : List UInt8) : Nat := ((namesL s).getD []).length
/-- WHAT PathOf ANSWERS. -/
def NamesIs (s : List UInt8) (w : World) (e : Ending) (w' : World) : Prop :=
  ∃ v g, e = .returned (.tuple #[v, .bool (namesL s).isSome]) ∧ w.heap.size ≤ g ∧ OwnS w' g v (namesN s) (namesF s) ∧ Below w.heap.size w w'
theorem NamesIs.no {s : List UInt8} {w w' : World} (h : namesL s = none) (hb : Below w.heap.size w w') : NamesIs s w (.returned (.tuple #[.slice none 0 0, .bool false])) w' :=
  ⟨_, w.heap.size, by rw [h]; rfl, Nat.le_refl _, ⟨none, 0, by unfold namesN; rw [h]; rfl, by unfold namesN; rw [h]; simp, .inl (by unfold namesN; rw [h]; rfl)⟩, hb⟩

def strCells (l : List (List UInt8)) : List Value := l.map fun n => Value.string (strL n)
theorem own_rowS {w : World} {B : Nat} {v : Value} {l : List (List UInt8)} (h : w.ownsRow B 9 1 v l.length (strCells l)) (hl : l.length ≤ 2 ^ 30) : ∃ g, B ≤ g ∧ OwnS w g v l.length (fun j => strL (l.getD j [])) := by
  have hlt := h.lt
  have hcells := @World.ownsRow.cells _ _ _ _ _ _ _ h
  obtain ⟨_, h0 | ⟨g, cap, cur, hv, hg, hh, _⟩⟩ := h
  · obtain ⟨hv, hx⟩ := h0
    refine ⟨B, Nat.le_refl _, none, 0, by rw [hx]; exact hv, hl, .inl hx⟩
  · refine ⟨g, hg, _, _, hv, hl, .inr ⟨rfl, (hlt g (by rw [hv]; rfl)).2, fun j hj => ⟨?_, ?_⟩⟩⟩
    · have := hcells (g := g) (by rw [hv]; rfl) j (.string (strL (l.getD j []))) (by simp [strCells, List.getElem?_eq_getElem hj, List.getD_eq_getElem?_getD])
      rw [show ((⟨g, 0, none⟩ : Addr).add j) = ⟨g, j, none⟩ by unfold Addr.add; split <;> simp_all] at this
      exact this
    · simp [World.frozen?, hh]
theorem NamesIs.yes {s : List UInt8} {l : List (List UInt8)} {w w' : World} {v : Value} {B : Nat} (h : namesL s = some l) (hl : l.length ≤ 2 ^ 30) (hB : w.heap.size ≤ B) (ho : w'.ownsRow B 9 1 v l.length (strCells l)) (hb : Below w.heap.size w w') : NamesIs s w (.returned (.tuple #[v, .bool true])) w' := by
  obtain ⟨g, hg, hi⟩ := own_rowS ho hl
  exact ⟨v, g, by rw [h]; rfl, by omega, by unfold namesN namesF; rw [h]; exact hi, hb⟩

theorem pairs_len (s : List UInt8) : (pairsL s).length ≤ s.length + 1 := by
  unfold pairsL
  split
  · simp
  · split
    · rw [List.length_map]
      cases s with
      | nil => simp [segsOf]
      | cons b t =>
        rw [segsOf]
        have : ∀ (k : Nat) (u : List UInt8), u.length ≤ k → (segs u).length ≤ u.length + 1 := by
          intro k
          induction k with
          | zero =>
            intro u hu
            obtain rfl : u = [] := List.eq_nil_of_length_eq_zero (by omega)
            simp [segs]
          | succ k ih =>
            intro u hu
            obtain ⟨g, hg, ⟨rfl, e⟩ | ⟨v, rfl, e⟩⟩ := segs_first u
            · rw [e]; simp
            · rw [e, List.length_cons, List.length_append, List.length_cons]
              rw [List.length_append, List.length_cons] at hu
              have := ih v (by omega)
              omega
        have := this t.length t (Nat.le_refl _)
        simp
        omega
    · simp
theorem infoStr1 : (Tryz.prog.info? 9).map (fun i => (i.zero, i.size, i.bytes)) = some (some (.string ⟨#[]⟩), 1, 16) := by kernel_rfl

def fsts (l : List (List UInt8 × Bool)) : List (List UInt8) := l.map (·.1)
theorem fsts_snoc (l : List (List UInt8 × Bool)) (x : List UInt8 × Bool) : fsts (l ++ [x]) = fsts l ++ [x.1] := by simp [fsts]

set_option maxRecDepth 100000 in
set_option maxHeartbeats 4000000 in
theorem implPathOf_in (s : List UInt8) (w : World) (hml : ML w) (hlen : s.length ≤ 60) :
    CallsIn Fence.wide 5 Tryz.prog 35 #[.string (strL s)] w (NamesIs s w) := by
  have hsz : (strL s).size ≤ 60 := by rw [strL_size]; exact hlen
  have hg1 : 0 < w.heap.size := by obtain ⟨m, hm⟩ := hml; exact World.block_lt_of_cell? _ _ hm
  obtain ⟨i0, hi, hz0, hz1, hz2⟩ := info_parts infoStr1
  refine callsIn_of_wp_marks Tryz.func35 rfl trivial ?_ rfl
  simp only [Tryz.ntmps35, List.size_toArray, List.length_cons, List.length_nil, Nat.reduceAdd, Nat.reduceSub, Array.replicate_succ, Array.replicate_zero, List.push_toArray, List.append_toArray, List.nil_append, List.cons_append]
  gi_wp2_with fail
  refine ⟨trivial, (namesIn_in _ _ _).mono ?_⟩
  rintro e w' ⟨rfl, rfl⟩
  have bR := Boxed.new w 54 (.slice none 0 0)
  have bQ := Boxed.new (w.alloc (.cells #[.slice none 0 0] 54)) 4 (.bool false)
  have bO := Boxed.new ((w.alloc (.cells #[.slice none 0 0] 54)).alloc (.cells #[.bool false] 4)) 54 (.slice none 0 0)
  have bS := Boxed.new (((w.alloc (.cells #[.slice none 0 0] 54)).alloc (.cells #[.bool false] 4)).alloc (.cells #[.slice none 0 0] 54)) 9 (.string (strL s))
  simp only [World.size_alloc] at bQ bO bS
  have hB0 : Below w.heap.size w ((((w.alloc (.cells #[.slice none 0 0] 54)).alloc (.cells #[.bool false] 4)).alloc (.cells #[.slice none 0 0] 54)).alloc (.cells #[.string (strL s)] 9)) := ((((Below.refl _ w).alloc (Nat.le_refl _) _).alloc (by simp) _).alloc (by simp; omega) _).alloc (by simp; omega) _
  have HPN : Hid (namesL s = if (pairsL s).all (·.2) then some (fsts (pairsL s)) else none) := names_pairs s hlen
  have HPL : Hid ((pairsL s).length ≤ 61) := by have := pairs_len s; show _ ≤ _; omega
  gi_wp2_with fail
  refine wpIn_rangeFunc_ownG rfl (by decide) (gf := 92) (lb := #[.pointer (some ⟨w.heap.size + 1 + 1 + 1, 0, none⟩)]) rfl trivial (enters_of Tryz.func92 (by kernel_rfl) rfl)
    (names_stops 4 (w.heap.size + 1 + 1 + 1) w.heap.size (by decide) s hlen _ (by simp) hg1 hB0.size bS.cell (hml.below hB0)) belowK_t (belowK_b (by simp; omega)) (Below.refl _ _) (fun _ => rfl)
    (fun pre W => ((∃ v, Boxed W (w.heap.size + 1 + 1) 54 v ∧ W.ownsRow w.heap.size 9 1 v (fsts pre).length (strCells (fsts pre)) ∧ pre.all (·.2) = true) ∧ (Boxed W w.heap.size 54 (.slice none 0 0) ∧ Boxed W (w.heap.size + 1) 4 (.bool false))) ∧ Below w.heap.size w W)
    (fun c pre W => ((c = .ret ∧ pre.all (·.2) = false) ∧ (Boxed W w.heap.size 54 (.slice none 0 0) ∧ Boxed W (w.heap.size + 1) 4 (.bool false))) ∧ Below w.heap.size w W)
    (OwnFrom.and (OwnFrom.and (Own.from (holdsRow_own w.heap.size (w.heap.size + 1 + 1) 54 9 1 (fun pre => (fsts pre).length) (fun pre => strCells (fsts pre)) (fun pre v => pre.all (·.2) = true)) _) (OwnFrom.and (Own.from (boxed_own _ _ _) _) (Own.from (boxed_own _ _ _) _))) (ownFrom_below (Nat.le_refl _) (by simp; omega)))
    (fun c => OwnFrom.and (OwnFrom.and (ownFrom_pure _ _) (OwnFrom.and (Own.from (boxed_own _ _ _) _) (Own.from (boxed_own _ _ _) _))) (ownFrom_below (Nat.le_refl _) (by simp; omega)))
    ⟨⟨⟨_, bO.alloc _, World.ownsRow_nil _ _ _ _, rfl⟩, ((bR.alloc _).alloc _).alloc _, (bQ.alloc _).alloc _⟩, hB0⟩
    (fun x => { tmps := #[.string (strL s), undef, .pointer (some ⟨w.heap.size, 0, none⟩), .pointer (some ⟨w.heap.size + 1, 0, none⟩), .pointer (some ⟨w.heap.size + 1 + 1, 0, none⟩), .string (strL x.1), .bool x.2, .string (strL s), .int .i64 (strL s).size, .bool (decide (60 < ((strL s).size : Int))), .string (strL s), .func (.func 92) #[] #[.pointer (some ⟨w.heap.size + 1 + 1 + 1, 0, none⟩)], .string (strL x.1), .bool x.2, undef, undef, undef, undef, undef, undef, undef], defers := [] }) ?assign ?body ?done ?stop
  case assign =>
    intro l x W K hK
    dsimp only [encNB]
    gi_wp2
    exact hK
  case body =>
    rintro l pre ⟨nm, ok⟩ W ⟨⟨⟨v, hv, hrow, hall⟩, hbR, hbQ⟩, hB⟩ hlt
    have hpl : (fsts pre).length < 61 := by simpa [fsts] using hlt
    cases ok with
    | false =>
      have cR := hbR.cell
      have fR := hbR.frozen
      have cQ := hbQ.cell
      have fQ := hbQ.frozen
      have hR2 : Boxed ((W.setCell ⟨w.heap.size, 0, none⟩ (.slice none 0 0)).setCell ⟨w.heap.size + 1, 0, none⟩ (.bool false)) w.heap.size 54 (.slice none 0 0) := (hbR.set _).other (by omega) _
      have hQ1 : Boxed (W.setCell ⟨w.heap.size, 0, none⟩ (.slice none 0 0)) (w.heap.size + 1) 4 (.bool false) := hbQ.other (by omega) _
      have hQ2 := hQ1.set (.bool false)
      have cQ1 := hQ1.cell
      have fQ1 := hQ1.frozen
      gi_wp2
      exact ⟨((KeepsOthers.setCell _ _ _).trans (KeepsOthers.setCell _ _ _)).from _, ⟨⟨rfl, by simp⟩, hR2, hQ2⟩, (hB.setCell (p := ⟨w.heap.size, 0, none⟩) (Nat.le_refl _) _).setCell (p := ⟨w.heap.size + 1, 0, none⟩) (by simp) _⟩
    | true =>
      have hc := hv.cell
      gi_wp2_with (gi_at_builtin; refine wpListIn_append_own _ rfl _ _ 54 rfl w.heap.size 9 i0 (.string ⟨#[]⟩) 1 16 Tryz.underlying54 hi hz0 hz1 hz2 rfl (by decide) _ _ _ rfl (hrow.alloc _) ⟨W.heap.size, 0, none⟩ 1 1 [.string (strL nm)] rfl rfl (cell_one_new _ _ _) (by simp [Value.oneCell']) (by unfold maxLen; omega) (by omega) (by have := hB.size; simp; omega) ?_; intro v' w1 hown' hgrow _; obtain ⟨g', cap', rfl⟩ := ownsRow_succ hown'; obtain ⟨hv1, hv2, hr2, hk2, hb2⟩ := hv.appended (by decide) hrow hB.size (by omega) hown' hgrow; have hc1 := hv1.cell; have hf1 := hv1.frozen)
      have hR1 := (((hbR.alloc _).kept hgrow (hbR.not_row (by decide) hrow)).other (show w.heap.size ≠ w.heap.size + 1 + 1 by omega) (.slice (some ⟨g', 0, none⟩) ((fsts pre).length + 1) cap'))
      have hQ1 := (((hbQ.alloc _).kept hgrow (hbQ.not_row (by decide) hrow)).other (show w.heap.size + 1 ≠ w.heap.size + 1 + 1 by omega) (.slice (some ⟨g', 0, none⟩) ((fsts pre).length + 1) cap'))
      exact ⟨hk2.from _, hb2, ⟨⟨_, hv2, by rw [fsts_snoc]; simpa [strCells] using hr2, by simp [hall]⟩, hR1, hQ1⟩, hB.trans hb2⟩
  case done =>
    rintro D ys W hD rfl ⟨⟨⟨v, hv, hrow, hall⟩, hbR, hbQ⟩, hB⟩ hK
    have HS : Hid (namesL s = some (fsts (pairsL s))) := by
      show _ = _
      rw [HPN.out, if_pos hall]
    have hfl : (fsts (pairsL s)).length ≤ 61 := by rw [fsts, List.length_map]; exact HPL.out
    obtain ⟨va, vn, vc, rfl⟩ : ∃ va vn vc, v = .slice va vn vc := by
      rcases hrow.2 with ⟨rfl, _⟩ | ⟨g, cap, cur, rfl, _⟩
      · exact ⟨_, _, _, rfl⟩
      · exact ⟨_, _, _, rfl⟩
    have cO := hv.cell
    have cR := hbR.cell
    have fR := hbR.frozen
    have hQ1 : Boxed (W.setCell ⟨w.heap.size, 0, none⟩ (.slice va vn vc)) (w.heap.size + 1) 4 (.bool false) := hbQ.other (by omega) _
    have hR1 := hbR.set (.slice va vn vc)
    have cQ1 := hQ1.cell
    have fQ1 := hQ1.frozen
    have hQ2 := hQ1.set (.bool true)
    have hR2 := hR1.other (show w.heap.size ≠ w.heap.size + 1 by omega) (.bool true)
    have hrow1 := hrow.kept (grownBy_setCell' W w.heap.size (.slice va vn vc)) (.inr (hbR.not_row (by decide) hrow).symm)
    have hrow2 := hrow1.kept (grownBy_setCell' _ (w.heap.size + 1) (.bool true)) (.inr (hQ1.not_row (by decide) hrow1).symm)
    have hK' := ((KeepsOthers.setCell W ⟨w.heap.size, 0, none⟩ (.slice va vn vc)).trans (KeepsOthers.setCell _ ⟨w.heap.size + 1, 0, none⟩ (.bool true))).same D _ hK rfl
    have hB2 := (hB.setCell (p := ⟨w.heap.size, 0, none⟩) (Nat.le_refl _) (.slice va vn vc)).setCell (p := ⟨w.heap.size + 1, 0, none⟩) (by simp) (.bool true)
    gi_wp2
    refine ⟨by simp, .inl ⟨_, _, rfl, run_takeDeferred hK', ?_⟩⟩
    have kR := cell_kept hR2.cell (grownBy_putObj' _ D (.deferred none)) (fun r e => by cases e; exact ⟨_, hK', rfl⟩)
    have kQ := cell_kept hQ2.cell (grownBy_putObj' _ D (.deferred none)) (fun r e => by cases e; exact ⟨_, hK', rfl⟩)
    refine ⟨.tuple #[.slice va vn vc, .bool true], ?_, NamesIs.yes HS.out (by omega) (Nat.le_refl _) (ownsRow_putObj hrow2 _ hK' rfl) (hB2.trans (belowK_b (w := w) (Nat.le_refl _) _ D _ _ (by simp at hD; omega) hK' rfl rfl))⟩
    simp [results, Tryz.f35, go_sem, kR, kQ]
  case stop =>
    rintro D c pre W hD hpre ⟨⟨⟨rfl, hno⟩, hbR, hbQ⟩, hB⟩ hK
    have HS : Hid (namesL s = none) := by
      show _ = _
      rw [HPN.out, if_neg]
      intro hall
      rw [List.all_eq_true] at hall
      rw [List.all_eq_false] at hno
      obtain ⟨x, hx, hn⟩ := hno
      exact hn (hall x (hpre.subset hx))
    gi_wp2
    refine ⟨by simp, .inl ⟨_, _, rfl, run_takeDeferred hK, ?_⟩⟩
    have kR := cell_kept hbR.cell (grownBy_putObj' _ D (.deferred none)) (fun r e => by cases e; exact ⟨_, hK, rfl⟩)
    have kQ := cell_kept hbQ.cell (grownBy_putObj' _ D (.deferred none)) (fun r e => by cases e; exact ⟨_, hK, rfl⟩)
    refine ⟨.tuple #[.slice none 0 0, .bool false], ?_, NamesIs.no HS.out (hB.trans (belowK_b (w := w) (Nat.le_refl _) _ D _ _ (by simp at hD; omega) hK rfl rfl))⟩
    simp [results, Tryz.f35, go_sem, kR, kQ]

set_option maxRecDepth 100000 in
set_option maxHeartbeats 4000000 in
theorem implPathOf_long (s : ByteArray) (w : World) (hlen : 60 < s.size) :
    CallsIn Fence.wide 5 Tryz.prog 35 #[.string s] w (NamesIs s.data.toList w) := by
  have HS : Hid (namesL s.data.toList = none) := by
    have : s.data.toList.length = s.size := Array.length_toList
    show _ = _
    unfold namesL
    rw [if_neg (fun h => by omega)]
  refine callsIn_of_wp Tryz.func35 rfl trivial ?_ rfl
  simp only [Tryz.ntmps35, List.size_toArray, List.length_cons, List.length_nil, Nat.reduceAdd, Nat.reduceSub, Array.replicate_succ, Array.replicate_zero, List.push_toArray, List.append_toArray, List.nil_append, List.cons_append]
  gi_wp2_with fail
  exact bodyPost_ret (v := .tuple #[.slice none 0 0, .bool false]) (by simp [results, Tryz.f35, go_sem]) rfl (NamesIs.no HS.out (((Below.refl _ w).alloc (Nat.le_refl _) _).alloc (by simp) _))

/-- PathOf, at every text. -/
theorem implPathOf_any (s : ByteArray) (w : World) (hml : ML w) :
    Calls Tryz.prog 35 #[.string s] w (NamesIs s.data.toList w) := by
  refine (callsIn_wide (n := 5)).1 ?_
  by_cases h : s.size ≤ 60
  · have := implPathOf_in s.data.toList w hml (by rw [Array.length_toList]; exact h)
    exact this
  · exact implPathOf_long s w (by omega)

end Go.Proofs.YtadlflgflnlhjaaGreatDoor
namespace Go.Proofs.YtadlflgflnlhjaaGreatDoor
open Go.RowKit
set_option linter.unusedVariables false

theorem ext_tail (b : UInt8) (t : List UInt8) : (strL (b :: t)).extract 1 (strL (b :: t)).size = strL t := by
  apply ByteArray.ext
  simp [strL, ByteArray.size]
theorem ext_head (b : UInt8) (t : List UInt8) : (strL (b :: t)).extract 0 1 = strL [b] := by
  apply ByteArray.ext
  simp [strL]
theorem emp_cons (b : UInt8) (t : List UInt8) : (strL (b :: t)).toList.isEmpty = false := by rw [Lib.toList_data]; rfl
theorem emp_nil : (strL []).toList.isEmpty = true := by rw [Lib.toList_data]; rfl

theorem pos_cons (b : UInt8) (t : List UInt8) : 0 < (strL (b :: t)).size := by rw [strL_size]; simp
theorem at_head (b : UInt8) (t : List UInt8) (h : 0 < (strL (b :: t)).size) : (strL (b :: t))[0] = b := rfl
theorem ne_head {b : UInt8} {t : List UInt8} {v : Nat} (hv : v < 256) (h : 0 < (strL (b :: t)).size) (hb : b ≠ UInt8.ofNat v) : (((strL (b :: t))[0].toNat : Int) != (v : Int)) = true := by
  rw [at_head]
  cases hc : ((b.toNat : Int) == (v : Int)) with
  | true => exact absurd ((byte_eq b v hv).1 hc) hb
  | false => rw [bne, hc]; rfl
theorem is_head {b : UInt8} {t : List UInt8} {v : Nat} (hv : v < 256) (h : 0 < (strL (b :: t)).size) (hb : b = UInt8.ofNat v) : (((strL (b :: t))[0].toNat : Int) != (v : Int)) = false := by
  rw [at_head, bne, (byte_eq b v hv).2 hb]
  rfl

theorem eq_head {b : UInt8} {t : List UInt8} {v : Nat} (hv : v < 256) (h : 0 < (strL (b :: t)).size) (hb : b = UInt8.ofNat v) : (((strL (b :: t))[0].toNat : Int) == (v : Int)) = true := by
  rw [at_head, (byte_eq b v hv).2 hb]
theorem nq_head {b : UInt8} {t : List UInt8} {v : Nat} (hv : v < 256) (h : 0 < (strL (b :: t)).size) (hb : b ≠ UInt8.ofNat v) : (((strL (b :: t))[0].toNat : Int) == (v : Int)) = false := by
  rw [at_head]
  cases hc : ((b.toNat : Int) == (v : Int)) with
  | true => exact absurd ((byte_eq b v hv).1 hc) hb
  | false => rfl

theorem allN_none {l r : List UInt8} {xs : List (List UInt8)} (h : allN (segsOf l) = (allN (segsOf r)).map (xs ++ ·)) (hr : allN (segsOf r) = none) : allN (segsOf l) = none := by rw [h, hr]; rfl

/-- A slice with room for what it holds. -/
def CapS (v : Value) : Prop := ∃ a n c, v = .slice a n c ∧ n ≤ c
/-- What l3Path answers, and its list has room for what it holds. -/
def NamesC (s : List UInt8) (w : World) (e : Ending) (w' : World) : Prop :=
  ∃ v g, e = .returned (.tuple #[v, .bool (namesL s).isSome]) ∧ w.heap.size ≤ g ∧ OwnS w' g v (namesN s) (namesF s) ∧ Below w.heap.size w w' ∧ CapS v
theorem NamesC.no {s : List UInt8} {w w' : World} (h : namesL s = none) (hb : Below w.heap.size w w') : NamesC s w (.returned (.tuple #[.slice none 0 0, .bool false])) w' := by
  obtain ⟨v, g, h1, h2, h3, h4⟩ := NamesIs.no h hb
  refine ⟨_, g, ?_, h2, ?_, h4, none, 0, 0, rfl, Nat.le_refl _⟩
  · rw [h]; rfl
  · have e : v = .slice none 0 0 := by
      have h5 := Ending.returned.inj h1
      simp at h5
      exact h5.1.symm
    rw [← e]
    exact h3
theorem NamesC.yes {s : List UInt8} {l : List (List UInt8)} {w w' : World} {v : Value} {B : Nat} (h : namesL s = some l) (hl : l.length ≤ 2 ^ 30) (hB : w.heap.size ≤ B) (ho : w'.ownsRow B 9 1 v l.length (strCells l)) (hb : Below w.heap.size w w') : NamesC s w (.returned (.tuple #[v, .bool true])) w' := by
  obtain ⟨g, hg, hi⟩ := own_rowS ho hl
  refine ⟨v, g, by rw [h]; rfl, by omega, by unfold namesN namesF; rw [h]; exact hi, hb, ?_⟩
  rcases ho.2 with ⟨rfl, _⟩ | ⟨g', cap, cur, rfl, _, _, hle, _⟩
  · exact ⟨_, _, _, rfl, Nat.le_refl _⟩
  · exact ⟨_, _, _, rfl, hle⟩

set_option maxRecDepth 100000 in
set_option maxHeartbeats 4000000 in
theorem l3Path_c (l : List UInt8) (w : World) (hs : l.length ≤ 2 ^ 20) :
    Calls Tryz.prog 29 #[.string (strL l)] w (NamesC l w) := by
  obtain ⟨i0, hi, hz0, hz1, hz2⟩ := info_parts infoStr1
  have HI0 : Hid (Tryz.prog.info? 9 = some i0 ∧ i0.zero = some (.string ⟨#[]⟩) ∧ i0.size = 1 ∧ i0.bytes = 16) := ⟨hi, hz0, hz1, hz2⟩
  clear hi hz0 hz1 hz2
  by_cases h60 : 60 < l.length
  · have HS : Hid (namesL l = none) := by
      show _ = _
      unfold namesL
      rw [if_neg (fun h => by omega)]
    have h1 : 60 < (strL l).size := by rw [strL_size]; exact h60
    go_enter Tryz.func29, Tryz.ntmps29
    go_wp2_with fail
    exact bodyPost_ret (v := .tuple #[.slice none 0 0, .bool false]) (by simp [results, Tryz.results29, go_sem]) rfl (NamesC.no HS.out (Below.refl _ _))
  by_cases hbad : ∃ b t, l = b :: t ∧ b ≠ 47
  · obtain ⟨b, t, rfl, hb⟩ := hbad
    have HS : Hid (namesL (b :: t) = none) := by
      show _ = _
      unfold namesL
      rw [if_neg (fun h => by rcases h.2 with h | h; simp at h; simp at h; exact hb h)]
    have e1 := emp_cons b t
    have p1 := pos_cons b t
    have n1 : (((strL (b :: t))[0].toNat : Int) != 47) = true := ne_head (t := t) (v := 47) (by omega) p1 hb
    have h1 : ¬ 60 < (strL (b :: t)).size := by rw [strL_size]; exact h60
    clear hs h60 hb
    go_enter Tryz.func29, Tryz.ntmps29
    go_wp2_with fail
    exact bodyPost_ret (v := .tuple #[.slice none 0 0, .bool false]) (by simp [results, Tryz.results29, go_sem]) rfl (NamesC.no HS.out (Below.refl _ _))
  have HN : Hid (namesL l = allN (segsOf l)) := by
    show _ = _
    unfold namesL
    rw [if_pos]
    refine ⟨by omega, ?_⟩
    cases l with
    | nil => exact .inl rfl
    | cons b t =>
      by_cases hb : b = 47
      · subst hb; exact .inr rfl
      · exact absurd ⟨b, t, rfl, hb⟩ hbad
  have HSH : Hid (l = [] ∨ ∃ t, l = 47 :: t) := by
    cases l with
    | nil => exact .inl rfl
    | cons b t =>
      by_cases hb : b = 47
      · subst hb; exact .inr ⟨t, rfl⟩
      · exact absurd ⟨b, t, rfl, hb⟩ hbad
  have h1 : ¬ 60 < (strL l).size := by rw [strL_size]; exact h60
  have hl60 : l.length ≤ 60 := by omega
  clear hbad hs h60
  rcases HSH.out with rfl | ⟨t0, rfl⟩
  · have he := emp_nil
    have HS : Hid (namesL [] = some []) := by show _ = _; rw [HN.out]; rfl
    go_enter Tryz.func29, Tryz.ntmps29
    go_wp2_with fail
    go_rounds 1
    exact bodyPost_ret (v := .tuple #[.slice none 0 0, .bool true]) (by simp [results, Tryz.results29, go_sem]) rfl (NamesC.yes HS.out (by simp) (Nat.le_refl _) (World.ownsRow_nil _ _ _ _) (Below.refl _ _))
  have e1 := emp_cons 47 t0
  have p1 := pos_cons 47 t0
  have n1 : (((strL (47 :: t0))[0].toNat : Int) != 47) = false := is_head (t := t0) (v := 47) (by omega) p1 rfl
  go_enter Tryz.func29, Tryz.ntmps29
  go_wp2_with fail
  go_loopw [0, 4] (fun sv ov wr => ∃ (r : List UInt8) (xs : List (List UInt8)), sv = .string (strL r) ∧ xs.length + r.length ≤ 60 ∧ Hid ((r = [] ∨ ∃ t, r = 47 :: t) ∧ wr.ownsRow w.heap.size 9 1 ov xs.length (strCells xs) ∧ allN (segsOf (47 :: t0)) = (allN (segsOf r)).map (xs ++ ·) ∧ Below w.heap.size w wr)) (fun sv _ _ => strSz sv)
  case atStart => exact ⟨47 :: t0, [], rfl, by simpa using hl60, .inr ⟨t0, rfl⟩, World.ownsRow_nil _ _ _ _, by simp, Below.refl _ _⟩
  case round =>
    obtain ⟨r, xs, rfl, hx, HR⟩ := hrel
    clear e1 n1 h1
    rcases HR.out.1 with rfl | ⟨t, rfl⟩
    · have he := emp_nil
      have HS : Hid (namesL (47 :: t0) = some xs) := by
        show _ = _
        rw [HN.out, HR.out.2.2.1]
        simp [segsOf, allN]
      obtain ⟨va, vn, vc, rfl⟩ : ∃ va vn vc, u4 = .slice va vn vc := by
        rcases HR.out.2.1.2 with ⟨rfl, _⟩ | ⟨g, cap, cur, rfl, _⟩
        · exact ⟨_, _, _, rfl⟩
        · exact ⟨_, _, _, rfl⟩
      go_wp2_with fail
      exact bodyPost_ret (v := .tuple #[.slice va vn vc, .bool true]) (by simp [results, Tryz.results29, go_sem]) rfl (NamesC.yes HS.out (by omega) (Nat.le_refl _) HR.out.2.1 HR.out.2.2.2)
    · have e2 := emp_cons 47 t
      have p2 := pos_cons 47 t
      have et : Hid ((strL (47 :: t)).extract 1 (strL (47 :: t)).size = strL t) := ext_tail 47 t
      have hxl : xs.length + t.length ≤ 59 := by simp at hx; omega
      have p3 : 1 ≤ (strL (47 :: t)).size := p2
      have p4 : (strL (47 :: t)).size ≤ 60 := by rw [strL_size]; simp; omega
      go_wp2_with fail
      go_loopw [0, 5] (fun sv nv wr2 => ∃ (g1 r2 x : List UInt8), sv = .string (strL r2) ∧ nv = .string (strL x) ∧ x.length + r2.length ≤ t.length ∧ Hid (t = g1 ++ r2 ∧ (∀ b ∈ g1, b ≠ 47) ∧ unesc g1 = some x) ∧ wr2 = wr) (fun sv _ _ => strSz sv)
      case atStart => exact ⟨[], t, [], by rw [et.out], rfl, by simp, ⟨rfl, by simp, rfl⟩, rfl⟩
      case round =>
        obtain ⟨g1, r2, x, rfl, rfl, hxr, HG, rfl⟩ := hrel
        clear e2 p3 p4
        have hx20 : (strL x).size ≤ 2 ^ 20 := by rw [strL_size]; omega
        cases r2 with
        | nil =>
          have he := emp_nil
          go_wp2_with fail
          refine (l1Printed_any (strL x) _ (by omega)).mono ?_
          rintro e w0 ⟨rfl, hw0⟩
          have hw := hw0.symm
          subst hw
          clear hw0
          have HE : Hid (allN (segs t) = if okL x then (allN (segsOf ([]))).map (x :: ·) else none) := by
            show _ = _
            rw [HG.out.1]
            exact read_end HG.out.2.1 HG.out.2.2 (.inl rfl)
          cases hpl : plainB (strL x) with
          | false =>
            have HS : Hid (namesL (47 :: t0) = none) := by
              show _ = _
              rw [HN.out]
              exact allN_none HR.out.2.2.1 (by show allN (segs t) = none; rw [HE.out, if_neg (by rw [← plain_okL, hpl]; simp)])
            go_wp2_with fail
            exact bodyPost_ret (v := .tuple #[.slice none 0 0, .bool false]) (by simp [results, Tryz.results29, go_sem]) rfl (NamesC.no HS.out HR.out.2.2.2)
          | true =>
            have HA : Hid (allN (segsOf (47 :: t0)) = (allN (segsOf ([]))).map ((xs ++ [x]) ++ ·)) := by
              show _ = _
              rw [HR.out.2.2.1]
              show (allN (segs t)).map _ = _
              rw [HE.out, if_pos (by rw [← plain_okL, hpl]), Option.map_map]
              congr 1
              funext y
              simp
            have hBz := HR.out.2.2.2.size
            have HM : Hid (strSz (.string (strL ([]))) < strSz (.string (strL (47 :: t)))) := by
              show (strL ([])).size < (strL (47 :: t)).size
              rw [strL_size, strL_size]
              simp at hxr ⊢
              try omega
            have hx1 : xs.length + 1 + ([] : List UInt8).length ≤ 60 := by simp at hxr ⊢; omega
            go_wp2_with (first | (at_builtin; refine wpList_append_own _ rfl _ _ 54 rfl w.heap.size 9 i0 _ 1 16 Tryz.underlying54 HI0.out.1 HI0.out.2.1 HI0.out.2.2.1 HI0.out.2.2.2 rfl (by decide) _ _ _ rfl (World.ownsRow.alloc HR.out.2.1 _) ⟨wr.heap.size, 0, none⟩ 1 1 [.string (strL x)] rfl rfl ?c1 ?c2 ?c3 ?c4 ?c5 ?_))
            case c1 => exact one_news _ _ _
            case c2 => simp [Value.oneCell']
            case c3 => unfold maxLen; omega
            case c4 => omega
            case c5 => simp; omega
            · intro v' w1 hown' hgrow _
              have HB : Hid (Below w.heap.size w w1) := grow_below HR.out.2.1 _ HR.out.2.2.2 hBz hgrow
              have HO : Hid (w1.ownsRow w.heap.size 9 1 v' (xs ++ [x]).length (strCells (xs ++ [x]))) := by
                show World.ownsRow _ _ _ _ _ _ _
                rw [List.length_append, show strCells (xs ++ [x]) = strCells xs ++ [.string (strL x)] by simp [strCells]]
                exact hown'
              clear hown' hgrow
              go_wp2
              go_roundw
              case rel => exact ⟨[], xs ++ [x], rfl, by rw [List.length_append]; exact hx1, (.inl rfl), HO.out, HA.out, HB.out⟩
              case measure => exact HM.out
        | cons b r3 =>
          have e3 := emp_cons b r3
          have p5 := pos_cons b r3
          by_cases hb : b = 47
          · subst hb
            have n2 : (((strL (47 :: r3))[0].toNat : Int) != 47) = false := is_head (t := r3) (v := 47) (by omega) p5 rfl
            go_wp2_with fail
            refine (l1Printed_any (strL x) _ (by omega)).mono ?_
            rintro e w0 ⟨rfl, hw0⟩
            have hw := hw0.symm
            subst hw
            clear hw0
            have HE : Hid (allN (segs t) = if okL x then (allN (segsOf (47 :: r3))).map (x :: ·) else none) := by
              show _ = _
              rw [HG.out.1]
              exact read_end HG.out.2.1 HG.out.2.2 (.inr ⟨r3, rfl⟩)
            cases hpl : plainB (strL x) with
            | false =>
              have HS : Hid (namesL (47 :: t0) = none) := by
                show _ = _
                rw [HN.out]
                exact allN_none HR.out.2.2.1 (by show allN (segs t) = none; rw [HE.out, if_neg (by rw [← plain_okL, hpl]; simp)])
              go_wp2_with fail
              exact bodyPost_ret (v := .tuple #[.slice none 0 0, .bool false]) (by simp [results, Tryz.results29, go_sem]) rfl (NamesC.no HS.out HR.out.2.2.2)
            | true =>
              have HA : Hid (allN (segsOf (47 :: t0)) = (allN (segsOf (47 :: r3))).map ((xs ++ [x]) ++ ·)) := by
                show _ = _
                rw [HR.out.2.2.1]
                show (allN (segs t)).map _ = _
                rw [HE.out, if_pos (by rw [← plain_okL, hpl]), Option.map_map]
                congr 1
                funext y
                simp
              have hBz := HR.out.2.2.2.size
              have HM : Hid (strSz (.string (strL (47 :: r3))) < strSz (.string (strL (47 :: t)))) := by
                show (strL (47 :: r3)).size < (strL (47 :: t)).size
                rw [strL_size, strL_size]
                simp at hxr ⊢
                try omega
              have hx1 : xs.length + 1 + (47 :: r3 : List UInt8).length ≤ 60 := by simp at hxr ⊢; omega
              go_wp2_with (first | (at_builtin; refine wpList_append_own _ rfl _ _ 54 rfl w.heap.size 9 i0 _ 1 16 Tryz.underlying54 HI0.out.1 HI0.out.2.1 HI0.out.2.2.1 HI0.out.2.2.2 rfl (by decide) _ _ _ rfl (World.ownsRow.alloc HR.out.2.1 _) ⟨wr.heap.size, 0, none⟩ 1 1 [.string (strL x)] rfl rfl ?c1 ?c2 ?c3 ?c4 ?c5 ?_))
              case c1 => exact one_news _ _ _
              case c2 => simp [Value.oneCell']
              case c3 => unfold maxLen; omega
              case c4 => omega
              case c5 => simp; omega
              · intro v' w1 hown' hgrow _
                have HB : Hid (Below w.heap.size w w1) := grow_below HR.out.2.1 _ HR.out.2.2.2 hBz hgrow
                have HO : Hid (w1.ownsRow w.heap.size 9 1 v' (xs ++ [x]).length (strCells (xs ++ [x]))) := by
                  show World.ownsRow _ _ _ _ _ _ _
                  rw [List.length_append, show strCells (xs ++ [x]) = strCells xs ++ [.string (strL x)] by simp [strCells]]
                  exact hown'
                clear hown' hgrow
                go_wp2
                go_roundw
                case rel => exact ⟨47 :: r3, xs ++ [x], rfl, by rw [List.length_append]; exact hx1, (.inr ⟨r3, rfl⟩), HO.out, HA.out, HB.out⟩
                case measure => exact HM.out
          · have n2 : (((strL (b :: r3))[0].toNat : Int) != 47) = true := ne_head (t := r3) (v := 47) (by omega) p5 hb
            have p6 : 1 ≤ (strL (b :: r3)).size := p5
            have eh := ext_head b r3
            have et3 := ext_tail b r3
            have l1 : (strL [b]).size = 1 := rfl
            by_cases h126 : b = 126
            · subst h126
              have q1 : ((strL [126]).toList == [126]) = true := by rw [Lib.toList_data]; rfl
              cases r3 with
              | nil =>
                have e4 := emp_nil
                have HS : Hid (namesL (47 :: t0) = none) := by
                  show _ = _
                  rw [HN.out]
                  exact allN_none HR.out.2.2.1 (by show allN (segs t) = none; rw [HG.out.1]; exact read_bad HG.out.2.1 HG.out.2.2 (.inl rfl))
                go_wp2_with fail
                exact bodyPost_ret (v := .tuple #[.slice none 0 0, .bool false]) (by simp [results, Tryz.results29, go_sem]) rfl (NamesC.no HS.out HR.out.2.2.2)
              | cons c r4 =>
                have e4 := emp_cons c r4
                have p7 := pos_cons c r4
                have p8 : 1 ≤ (strL (c :: r4)).size := p7
                have et4 := ext_tail c r4
                by_cases h48 : c = 48
                · subst h48
                  have m48 : (((strL (48 :: r4))[0].toNat : Int) != 48) = false := is_head (t := r4) (v := 48) (by omega) p7 rfl
                  have m49 : (((strL (48 :: r4))[0].toNat : Int) == 49) = false := nq_head (t := r4) (v := 49) (by omega) p7 (by decide)
                  have HG2 : Hid (t = (g1 ++ [126, 48]) ++ r4 ∧ (∀ y ∈ g1 ++ [126, 48], y ≠ 47) ∧ unesc (g1 ++ [126, 48]) = some (x ++ [126])) := by
                    refine ⟨by rw [HG.out.1]; simp, fun y hy => ?_, read_on HG.out.2.2 unesc_t0⟩
                    rcases List.mem_append.1 hy with hy | hy
                    · exact HG.out.2.1 y hy
                    · (intro e; subst e; simp at hy)
                  go_wp2
                  go_roundw
                  case rel => exact ⟨g1 ++ [126, 48], r4, x ++ [126], rfl, by first | (rw [← strL_append]; rfl) | rw [← strL_append], by simp at hxr ⊢; omega, HG2.out, by first | trivial | rfl⟩
                  case measure =>
                    show (strL (r4)).size < (strL (126 :: 48 :: r4)).size
                    rw [strL_size, strL_size]
                    simp
                    try omega
                · by_cases h49 : c = 49
                  · subst h49
                    have m48 : (((strL (49 :: r4))[0].toNat : Int) != 48) = true := ne_head (t := r4) (v := 48) (by omega) p7 (by decide)
                    have m49 : (((strL (49 :: r4))[0].toNat : Int) != 49) = false := is_head (t := r4) (v := 49) (by omega) p7 rfl
                    have m49e : (((strL (49 :: r4))[0].toNat : Int) == 49) = true := eq_head (t := r4) (v := 49) (by omega) p7 rfl
                    have HG2 : Hid (t = (g1 ++ [126, 49]) ++ r4 ∧ (∀ y ∈ g1 ++ [126, 49], y ≠ 47) ∧ unesc (g1 ++ [126, 49]) = some (x ++ [47])) := by
                      refine ⟨by rw [HG.out.1]; simp, fun y hy => ?_, read_on HG.out.2.2 unesc_t1⟩
                      rcases List.mem_append.1 hy with hy | hy
                      · exact HG.out.2.1 y hy
                      · (intro e; subst e; simp at hy)
                    go_wp2
                    go_roundw
                    case rel => exact ⟨g1 ++ [126, 49], r4, x ++ [47], rfl, by first | (rw [← strL_append]; rfl) | rw [← strL_append], by simp at hxr ⊢; omega, HG2.out, by first | trivial | rfl⟩
                    case measure =>
                      show (strL (r4)).size < (strL (126 :: 49 :: r4)).size
                      rw [strL_size, strL_size]
                      simp
                      try omega
                  · have m48 : (((strL (c :: r4))[0].toNat : Int) != 48) = true := ne_head (t := r4) (v := 48) (by omega) p7 h48
                    have m49 : (((strL (c :: r4))[0].toNat : Int) != 49) = true := ne_head (t := r4) (v := 49) (by omega) p7 h49
                    have HS : Hid (namesL (47 :: t0) = none) := by
                      show _ = _
                      rw [HN.out]
                      exact allN_none HR.out.2.2.1 (by show allN (segs t) = none; rw [HG.out.1]; exact read_bad HG.out.2.1 HG.out.2.2 (.inr ⟨c, r4, rfl, h48, h49⟩))
                    go_wp2_with fail
                    exact bodyPost_ret (v := .tuple #[.slice none 0 0, .bool false]) (by simp [results, Tryz.results29, go_sem]) rfl (NamesC.no HS.out HR.out.2.2.2)
            · have q2 : ((strL [b]).toList == [126]) = false := by
                rw [Lib.toList_data]
                show (([b] : List UInt8) == [126]) = false
                simpa using h126
              have HG2 : Hid (t = (g1 ++ [b]) ++ r3 ∧ (∀ y ∈ g1 ++ [b], y ≠ 47) ∧ unesc (g1 ++ [b]) = some (x ++ [b])) := by
                refine ⟨by rw [HG.out.1]; simp, fun y hy => ?_, read_on HG.out.2.2 (unesc_one h126)⟩
                rcases List.mem_append.1 hy with hy | hy
                · exact HG.out.2.1 y hy
                · (simp at hy; subst hy; exact hb)
              go_wp2
              go_roundw
              case rel => exact ⟨g1 ++ [b], r3, x ++ [b], rfl, by first | (rw [← strL_append]; rfl) | rw [← strL_append], by simp at hxr ⊢; omega, HG2.out, by first | trivial | rfl⟩
              case measure =>
                show (strL (r3)).size < (strL (b :: r3)).size
                rw [strL_size, strL_size]
                simp
                try omega

theorem l3Path_any (l : List UInt8) (w : World) (hs : l.length ≤ 2 ^ 20) :
    Calls Tryz.prog 29 #[.string (strL l)] w (NamesIs l w) :=
  (l3Path_c l w hs).mono fun e w' ⟨v, g, h1, h2, h3, h4, _⟩ => ⟨v, g, h1, h2, h3, h4⟩

end Go.Proofs.YtadlflgflnlhjaaGreatDoor
namespace Go.Proofs.YtadlflgflnlhjaaGreatDoor
open Go.RowKit Go.Shelf
set_option linter.unusedVariables false
attribute [local go_sem] Oper.semAt_some

set_option maxRecDepth 100000 in
set_option maxHeartbeats 4000000 in
theorem implPathC_in (s : List UInt8) (w : World) (hml : ML w) (hlen : s.length ≤ 60) :
    CallsIn Fence.wide 5 Tryz.prog 35 #[.string (strL s)] w (NamesC s w) := by
  have hsz : (strL s).size ≤ 60 := by rw [strL_size]; exact hlen
  have hg1 : 0 < w.heap.size := by obtain ⟨m, hm⟩ := hml; exact World.block_lt_of_cell? _ _ hm
  obtain ⟨i0, hi, hz0, hz1, hz2⟩ := info_parts infoStr1
  refine callsIn_of_wp_marks Tryz.func35 rfl trivial ?_ rfl
  simp only [Tryz.ntmps35, List.size_toArray, List.length_cons, List.length_nil, Nat.reduceAdd, Nat.reduceSub, Array.replicate_succ, Array.replicate_zero, List.push_toArray, List.append_toArray, List.nil_append, List.cons_append]
  gi_wp2_with fail
  refine ⟨trivial, (namesIn_in _ _ _).mono ?_⟩
  rintro e w' ⟨rfl, rfl⟩
  have bR := Boxed.new w 54 (.slice none 0 0)
  have bQ := Boxed.new (w.alloc (.cells #[.slice none 0 0] 54)) 4 (.bool false)
  have bO := Boxed.new ((w.alloc (.cells #[.slice none 0 0] 54)).alloc (.cells #[.bool false] 4)) 54 (.slice none 0 0)
  have bS := Boxed.new (((w.alloc (.cells #[.slice none 0 0] 54)).alloc (.cells #[.bool false] 4)).alloc (.cells #[.slice none 0 0] 54)) 9 (.string (strL s))
  simp only [World.size_alloc] at bQ bO bS
  have hB0 : Below w.heap.size w ((((w.alloc (.cells #[.slice none 0 0] 54)).alloc (.cells #[.bool false] 4)).alloc (.cells #[.slice none 0 0] 54)).alloc (.cells #[.string (strL s)] 9)) := ((((Below.refl _ w).alloc (Nat.le_refl _) _).alloc (by simp) _).alloc (by simp; omega) _).alloc (by simp; omega) _
  have HPN : Hid (namesL s = if (pairsL s).all (·.2) then some (fsts (pairsL s)) else none) := names_pairs s hlen
  have HPL : Hid ((pairsL s).length ≤ 61) := by have := pairs_len s; show _ ≤ _; omega
  gi_wp2_with fail
  refine wpIn_rangeFunc_ownG rfl (by decide) (gf := 92) (lb := #[.pointer (some ⟨w.heap.size + 1 + 1 + 1, 0, none⟩)]) rfl trivial (enters_of Tryz.func92 (by kernel_rfl) rfl)
    (names_stops 4 (w.heap.size + 1 + 1 + 1) w.heap.size (by decide) s hlen _ (by simp) hg1 hB0.size bS.cell (hml.below hB0)) belowK_t (belowK_b (by simp; omega)) (Below.refl _ _) (fun _ => rfl)
    (fun pre W => ((∃ v, Boxed W (w.heap.size + 1 + 1) 54 v ∧ W.ownsRow w.heap.size 9 1 v (fsts pre).length (strCells (fsts pre)) ∧ pre.all (·.2) = true) ∧ (Boxed W w.heap.size 54 (.slice none 0 0) ∧ Boxed W (w.heap.size + 1) 4 (.bool false))) ∧ Below w.heap.size w W)
    (fun c pre W => ((c = .ret ∧ pre.all (·.2) = false) ∧ (Boxed W w.heap.size 54 (.slice none 0 0) ∧ Boxed W (w.heap.size + 1) 4 (.bool false))) ∧ Below w.heap.size w W)
    (OwnFrom.and (OwnFrom.and (Own.from (holdsRow_own w.heap.size (w.heap.size + 1 + 1) 54 9 1 (fun pre => (fsts pre).length) (fun pre => strCells (fsts pre)) (fun pre v => pre.all (·.2) = true)) _) (OwnFrom.and (Own.from (boxed_own _ _ _) _) (Own.from (boxed_own _ _ _) _))) (ownFrom_below (Nat.le_refl _) (by simp; omega)))
    (fun c => OwnFrom.and (OwnFrom.and (ownFrom_pure _ _) (OwnFrom.and (Own.from (boxed_own _ _ _) _) (Own.from (boxed_own _ _ _) _))) (ownFrom_below (Nat.le_refl _) (by simp; omega)))
    ⟨⟨⟨_, bO.alloc _, World.ownsRow_nil _ _ _ _, rfl⟩, ((bR.alloc _).alloc _).alloc _, (bQ.alloc _).alloc _⟩, hB0⟩
    (fun x => { tmps := #[.string (strL s), undef, .pointer (some ⟨w.heap.size, 0, none⟩), .pointer (some ⟨w.heap.size + 1, 0, none⟩), .pointer (some ⟨w.heap.size + 1 + 1, 0, none⟩), .string (strL x.1), .bool x.2, .string (strL s), .int .i64 (strL s).size, .bool (decide (60 < ((strL s).size : Int))), .string (strL s), .func (.func 92) #[] #[.pointer (some ⟨w.heap.size + 1 + 1 + 1, 0, none⟩)], .string (strL x.1), .bool x.2, undef, undef, undef, undef, undef, undef, undef], defers := [] }) ?assign ?body ?done ?stop
  case assign =>
    intro l x W K hK
    dsimp only [encNB]
    gi_wp2
    exact hK
  case body =>
    rintro l pre ⟨nm, ok⟩ W ⟨⟨⟨v, hv, hrow, hall⟩, hbR, hbQ⟩, hB⟩ hlt
    have hpl : (fsts pre).length < 61 := by simpa [fsts] using hlt
    cases ok with
    | false =>
      have cR := hbR.cell
      have fR := hbR.frozen
      have cQ := hbQ.cell
      have fQ := hbQ.frozen
      have hR2 : Boxed ((W.setCell ⟨w.heap.size, 0, none⟩ (.slice none 0 0)).setCell ⟨w.heap.size + 1, 0, none⟩ (.bool false)) w.heap.size 54 (.slice none 0 0) := (hbR.set _).other (by omega) _
      have hQ1 : Boxed (W.setCell ⟨w.heap.size, 0, none⟩ (.slice none 0 0)) (w.heap.size + 1) 4 (.bool false) := hbQ.other (by omega) _
      have hQ2 := hQ1.set (.bool false)
      have cQ1 := hQ1.cell
      have fQ1 := hQ1.frozen
      gi_wp2
      exact ⟨((KeepsOthers.setCell _ _ _).trans (KeepsOthers.setCell _ _ _)).from _, ⟨⟨rfl, by simp⟩, hR2, hQ2⟩, (hB.setCell (p := ⟨w.heap.size, 0, none⟩) (Nat.le_refl _) _).setCell (p := ⟨w.heap.size + 1, 0, none⟩) (by simp) _⟩
    | true =>
      have hc := hv.cell
      gi_wp2_with (gi_at_builtin; refine wpListIn_append_own _ rfl _ _ 54 rfl w.heap.size 9 i0 (.string ⟨#[]⟩) 1 16 Tryz.underlying54 hi hz0 hz1 hz2 rfl (by decide) _ _ _ rfl (hrow.alloc _) ⟨W.heap.size, 0, none⟩ 1 1 [.string (strL nm)] rfl rfl (cell_one_new _ _ _) (by simp [Value.oneCell']) (by unfold maxLen; omega) (by omega) (by have := hB.size; simp; omega) ?_; intro v' w1 hown' hgrow _; obtain ⟨g', cap', rfl⟩ := ownsRow_succ hown'; obtain ⟨hv1, hv2, hr2, hk2, hb2⟩ := hv.appended (by decide) hrow hB.size (by omega) hown' hgrow; have hc1 := hv1.cell; have hf1 := hv1.frozen)
      have hR1 := (((hbR.alloc _).kept hgrow (hbR.not_row (by decide) hrow)).other (show w.heap.size ≠ w.heap.size + 1 + 1 by omega) (.slice (some ⟨g', 0, none⟩) ((fsts pre).length + 1) cap'))
      have hQ1 := (((hbQ.alloc _).kept hgrow (hbQ.not_row (by decide) hrow)).other (show w.heap.size + 1 ≠ w.heap.size + 1 + 1 by omega) (.slice (some ⟨g', 0, none⟩) ((fsts pre).length + 1) cap'))
      exact ⟨hk2.from _, hb2, ⟨⟨_, hv2, by rw [fsts_snoc]; simpa [strCells] using hr2, by simp [hall]⟩, hR1, hQ1⟩, hB.trans hb2⟩
  case done =>
    rintro D ys W hD rfl ⟨⟨⟨v, hv, hrow, hall⟩, hbR, hbQ⟩, hB⟩ hK
    have HS : Hid (namesL s = some (fsts (pairsL s))) := by
      show _ = _
      rw [HPN.out, if_pos hall]
    have hfl : (fsts (pairsL s)).length ≤ 61 := by rw [fsts, List.length_map]; exact HPL.out
    obtain ⟨va, vn, vc, rfl⟩ : ∃ va vn vc, v = .slice va vn vc := by
      rcases hrow.2 with ⟨rfl, _⟩ | ⟨g, cap, cur, rfl, _⟩
      · exact ⟨_, _, _, rfl⟩
      · exact ⟨_, _, _, rfl⟩
    have cO := hv.cell
    have cR := hbR.cell
    have fR := hbR.frozen
    have hQ1 : Boxed (W.setCell ⟨w.heap.size, 0, none⟩ (.slice va vn vc)) (w.heap.size + 1) 4 (.bool false) := hbQ.other (by omega) _
    have hR1 := hbR.set (.slice va vn vc)
    have cQ1 := hQ1.cell
    have fQ1 := hQ1.frozen
    have hQ2 := hQ1.set (.bool true)
    have hR2 := hR1.other (show w.heap.size ≠ w.heap.size + 1 by omega) (.bool true)
    have hrow1 := hrow.kept (grownBy_setCell' W w.heap.size (.slice va vn vc)) (.inr (hbR.not_row (by decide) hrow).symm)
    have hrow2 := hrow1.kept (grownBy_setCell' _ (w.heap.size + 1) (.bool true)) (.inr (hQ1.not_row (by decide) hrow1).symm)
    have hK' := ((KeepsOthers.setCell W ⟨w.heap.size, 0, none⟩ (.slice va vn vc)).trans (KeepsOthers.setCell _ ⟨w.heap.size + 1, 0, none⟩ (.bool true))).same D _ hK rfl
    have hB2 := (hB.setCell (p := ⟨w.heap.size, 0, none⟩) (Nat.le_refl _) (.slice va vn vc)).setCell (p := ⟨w.heap.size + 1, 0, none⟩) (by simp) (.bool true)
    gi_wp2
    refine ⟨by simp, .inl ⟨_, _, rfl, run_takeDeferred hK', ?_⟩⟩
    have kR := cell_kept hR2.cell (grownBy_putObj' _ D (.deferred none)) (fun r e => by cases e; exact ⟨_, hK', rfl⟩)
    have kQ := cell_kept hQ2.cell (grownBy_putObj' _ D (.deferred none)) (fun r e => by cases e; exact ⟨_, hK', rfl⟩)
    refine ⟨.tuple #[.slice va vn vc, .bool true], ?_, NamesC.yes HS.out (by omega) (Nat.le_refl _) (ownsRow_putObj hrow2 _ hK' rfl) (hB2.trans (belowK_b (w := w) (Nat.le_refl _) _ D _ _ (by simp at hD; omega) hK' rfl rfl))⟩
    simp [results, Tryz.f35, go_sem, kR, kQ]
  case stop =>
    rintro D c pre W hD hpre ⟨⟨⟨rfl, hno⟩, hbR, hbQ⟩, hB⟩ hK
    have HS : Hid (namesL s = none) := by
      show _ = _
      rw [HPN.out, if_neg]
      intro hall
      rw [List.all_eq_true] at hall
      rw [List.all_eq_false] at hno
      obtain ⟨x, hx, hn⟩ := hno
      exact hn (hall x (hpre.subset hx))
    gi_wp2
    refine ⟨by simp, .inl ⟨_, _, rfl, run_takeDeferred hK, ?_⟩⟩
    have kR := cell_kept hbR.cell (grownBy_putObj' _ D (.deferred none)) (fun r e => by cases e; exact ⟨_, hK, rfl⟩)
    have kQ := cell_kept hbQ.cell (grownBy_putObj' _ D (.deferred none)) (fun r e => by cases e; exact ⟨_, hK, rfl⟩)
    refine ⟨.tuple #[.slice none 0 0, .bool false], ?_, NamesC.no HS.out (hB.trans (belowK_b (w := w) (Nat.le_refl _) _ D _ _ (by simp at hD; omega) hK rfl rfl))⟩
    simp [results, Tryz.f35, go_sem, kR, kQ]

set_option maxRecDepth 100000 in
set_option maxHeartbeats 4000000 in
theorem implPathC_long (s : ByteArray) (w : World) (hlen : 60 < s.size) :
    CallsIn Fence.wide 5 Tryz.prog 35 #[.string s] w (NamesC s.data.toList w) := by
  have HS : Hid (namesL s.data.toList = none) := by
    have : s.data.toList.length = s.size := Array.length_toList
    show _ = _
    unfold namesL
    rw [if_neg (fun h => by omega)]
  refine callsIn_of_wp Tryz.func35 rfl trivial ?_ rfl
  simp only [Tryz.ntmps35, List.size_toArray, List.length_cons, List.length_nil, Nat.reduceAdd, Nat.reduceSub, Array.replicate_succ, Array.replicate_zero, List.push_toArray, List.append_toArray, List.nil_append, List.cons_append]
  gi_wp2_with fail
  exact bodyPost_ret (v := .tuple #[.slice none 0 0, .bool false]) (by simp [results, Tryz.f35, go_sem]) rfl (NamesC.no HS.out (((Below.refl _ w).alloc (Nat.le_refl _) _).alloc (by simp) _))

/-- PathOf, at every text. -/
theorem implPathC_any (s : ByteArray) (w : World) (hml : ML w) :
    Calls Tryz.prog 35 #[.string s] w (NamesC s.data.toList w) := by
  refine (callsIn_wide (n := 5)).1 ?_
  by_cases h : s.size ≤ 60
  · have := implPathC_in s.data.toList w hml (by rw [Array.length_toList]; exact h)
    exact this
  · exact implPathC_long s w (by omega)

end Go.Proofs.YtadlflgflnlhjaaGreatDoor
