/- The names of a path: the program's PathOf. -/
import Derived.Test.YtjohocnfcnjciaaGreatDoorNamesIt
import Derived.Test.YtjohocnfcnjciaaGreatDoorStrs0
import Derived.Maps.AppendAt
namespace Go.Proofs.YtjohocnfcnjciaaGreatDoor
open Go.RowKit Go.Shelf
set_option linter.unusedVariables false
attribute [local go_sem] Oper.semAt_some

/-- The names, as texts. -/
def namesF (s : List UInt8) : Nat → ByteArray := fun j => strL (((namesL s).getD []).getD j [])
def namesN (s : List UInt8) : Nat := ((namesL s).getD []).length
/-- WHAT PathOf ANSWERS. -/
def NamesIs (s : List UInt8) (w : World) (e : Ending) (w' : World) : Prop :=
  ∃ v g, e = .returned (.tuple #[v, .bool (namesL s).isSome]) ∧ w.heap.size ≤ g ∧ OwnS w' g v (namesN s) (namesF s) ∧ Below w.heap.size w w'
theorem NamesIs.no {s : List UInt8} {w w' : World} (h : namesL s = none) (hb : Below w.heap.size w w') : NamesIs s w (.returned (.tuple #[.slice none 0 0, .bool false])) w' :=
  ⟨_, w.heap.size, by rw [h]; rfl, Nat.le_refl _, ⟨none, 0, by unfold namesN; rw [h]; rfl, by unfold namesN; rw [h]; simp, .inl (by unfold namesN; rw [h]; rfl)⟩, hb⟩

def strCells (l : List (List UInt8)) : List Value := l.map fun n => Value.string (strL n)
theorem own_rowS {w : World} {B : Nat} {v : Value} {l : List (List UInt8)} (h : w.ownsRow B 9 1 v l.length (strCells l)) (hl : l.length ≤ 2 ^ 30) : ∃ g, B ≤ g ∧ OwnS w g v l.length (fun j => strL (l.getD j [])) := by
  have hlt := h.lt
  have hcells := @World.ownsRow.cells _ _ _ _ _ _ _ h
  obtain ⟨_, h0 | ⟨g, cap, cur, hv, hg, hh, _⟩⟩ := h
  · obtain ⟨hv, hx⟩ := h0
    refine ⟨B, Nat.le_refl _, none, 0, by rw [hx]; exact hv, hl, .inl hx⟩
  · refine ⟨g, hg, _, _, hv, hl, .inr ⟨rfl, (hlt g (by rw [hv]; rfl)).2, fun j hj => ⟨?_, ?_⟩⟩⟩
    · have := hcells (g := g) (by rw [hv]; rfl) j (.string (strL (l.getD j []))) (by simp [strCells, List.getElem?_eq_getElem hj, List.getD_eq_getElem?_getD])
      rw [show ((⟨g, 0, none⟩ : Addr).add j) = ⟨g, j, none⟩ by unfold Addr.add; split <;> simp_all] at this
      exact this
    · simp [World.frozen?, hh]
theorem NamesIs.yes {s : List UInt8} {l : List (List UInt8)} {w w' : World} {v : Value} {B : Nat} (h : namesL s = some l) (hl : l.length ≤ 2 ^ 30) (hB : w.heap.size ≤ B) (ho : w'.ownsRow B 9 1 v l.length (strCells l)) (hb : Below w.heap.size w w') : NamesIs s w (.returned (.tuple #[v, .bool true])) w' := by
  obtain ⟨g, hg, hi⟩ := own_rowS ho hl
  exact ⟨v, g, by rw [h]; rfl, by omega, by unfold namesN namesF; rw [h]; exact hi, hb⟩

theorem pairs_len (s : List UInt8) : (pairsL s).length ≤ s.length + 1 := by
  unfold pairsL
  split
  · simp
  · split
    · rw [List.length_map]
      cases s with
      | nil => simp [segsOf]
      | cons b t =>
        rw [segsOf]
        have : ∀ (k : Nat) (u : List UInt8), u.length ≤ k → (segs u).length ≤ u.length + 1 := by
          intro k
          induction k with
          | zero =>
            intro u hu
            obtain rfl : u = [] := List.eq_nil_of_length_eq_zero (by omega)
            simp [segs]
          | succ k ih =>
            intro u hu
            obtain ⟨g, hg, ⟨rfl, e⟩ | ⟨v, rfl, e⟩⟩ := segs_first u
            · rw [e]; simp
            · rw [e, List.length_cons, List.length_append, List.length_cons]
              rw [List.length_append, List.length_cons] at hu
              have := ih v (by omega)
              omega
        have := this t.length t (Nat.le_refl _)
        simp
        omega
    · simp
theorem infoStr1 : (Tryz.prog.info? 9).map (fun i => (i.zero, i.size, i.bytes)) = some (some (.string ⟨#[]⟩), 1, 16) := by kernel_rfl

def fsts (l : List (List UInt8 × Bool)) : List (List UInt8) := l.map (·.1)
theorem fsts_snoc (l : List (List UInt8 × Bool)) (x : List UInt8 × Bool) : fsts (l ++ [x]) = fsts l ++ [x.1] := by simp [fsts]

set_option maxRecDepth 100000 in
set_option maxHeartbeats 4000000 in
theorem implPathOf_in (s : List UInt8) (w : World) (hml : ML w) (hlen : s.length ≤ 60) :
    CallsIn Fence.wide 5 Tryz.prog 96 #[.string (strL s)] w (NamesIs s w) := by
  have hsz : (strL s).size ≤ 60 := by rw [strL_size]; exact hlen
  have hg1 : 1 < w.heap.size := by obtain ⟨m, hm⟩ := hml; exact World.block_lt_of_cell? _ _ hm
  obtain ⟨i0, hi, hz0, hz1, hz2⟩ := info_parts infoStr1
  refine callsIn_of_wp_marks Tryz.func96 rfl trivial ?_ rfl
  simp only [Tryz.ntmps96, List.size_toArray, List.length_cons, List.length_nil, Nat.reduceAdd, Nat.reduceSub, Array.replicate_succ, Array.replicate_zero, List.push_toArray, List.append_toArray, List.nil_append, List.cons_append]
  gi_wp2_with fail
  refine ⟨trivial, (namesIn_in _ _ _).mono ?_⟩
  rintro e w' ⟨rfl, rfl⟩
  have bR := Boxed.new w 64 (.slice none 0 0)
  have bQ := Boxed.new (w.alloc (.cells #[.slice none 0 0] 64)) 4 (.bool false)
  have bO := Boxed.new ((w.alloc (.cells #[.slice none 0 0] 64)).alloc (.cells #[.bool false] 4)) 64 (.slice none 0 0)
  have bS := Boxed.new (((w.alloc (.cells #[.slice none 0 0] 64)).alloc (.cells #[.bool false] 4)).alloc (.cells #[.slice none 0 0] 64)) 9 (.string (strL s))
  simp only [World.size_alloc] at bQ bO bS
  have hB0 : Below w.heap.size w ((((w.alloc (.cells #[.slice none 0 0] 64)).alloc (.cells #[.bool false] 4)).alloc (.cells #[.slice none 0 0] 64)).alloc (.cells #[.string (strL s)] 9)) := ((((Below.refl _ w).alloc (Nat.le_refl _) _).alloc (by simp) _).alloc (by simp; omega) _).alloc (by simp; omega) _
  have HPN : Hid (namesL s = if (pairsL s).all (·.2) then some (fsts (pairsL s)) else none) := names_pairs s hlen
  have HPL : Hid ((pairsL s).length ≤ 61) := by have := pairs_len s; show _ ≤ _; omega
  gi_wp2_with fail
  refine wpIn_rangeFunc_ownG rfl (by decide) (gf := 105) (lb := #[.pointer (some ⟨w.heap.size + 1 + 1 + 1, 0, none⟩)]) rfl trivial (enters_of Tryz.func105 (by kernel_rfl) rfl)
    (names_stops 4 (w.heap.size + 1 + 1 + 1) w.heap.size (by decide) s hlen _ (by simp) hg1 hB0.size bS.cell (hml.below hB0)) belowK_t (belowK_b (by simp; omega)) (Below.refl _ _) (fun _ => rfl)
    (fun pre W => ((∃ v, Boxed W (w.heap.size + 1 + 1) 64 v ∧ W.ownsRow w.heap.size 9 1 v (fsts pre).length (strCells (fsts pre)) ∧ pre.all (·.2) = true) ∧ (Boxed W w.heap.size 64 (.slice none 0 0) ∧ Boxed W (w.heap.size + 1) 4 (.bool false))) ∧ Below w.heap.size w W)
    (fun c pre W => ((c = .ret ∧ pre.all (·.2) = false) ∧ (Boxed W w.heap.size 64 (.slice none 0 0) ∧ Boxed W (w.heap.size + 1) 4 (.bool false))) ∧ Below w.heap.size w W)
    (OwnFrom.and (OwnFrom.and (Own.from (holdsRow_own w.heap.size (w.heap.size + 1 + 1) 64 9 1 (fun pre => (fsts pre).length) (fun pre => strCells (fsts pre)) (fun pre v => pre.all (·.2) = true)) _) (OwnFrom.and (Own.from (boxed_own _ _ _) _) (Own.from (boxed_own _ _ _) _))) (ownFrom_below (Nat.le_refl _) (by simp; omega)))
    (fun c => OwnFrom.and (OwnFrom.and (ownFrom_pure _ _) (OwnFrom.and (Own.from (boxed_own _ _ _) _) (Own.from (boxed_own _ _ _) _))) (ownFrom_below (Nat.le_refl _) (by simp; omega)))
    ⟨⟨⟨_, bO.alloc _, World.ownsRow_nil _ _ _ _, rfl⟩, ((bR.alloc _).alloc _).alloc _, (bQ.alloc _).alloc _⟩, hB0⟩
    (fun x => { tmps := #[.string (strL s), undef, .pointer (some ⟨w.heap.size, 0, none⟩), .pointer (some ⟨w.heap.size + 1, 0, none⟩), .pointer (some ⟨w.heap.size + 1 + 1, 0, none⟩), .string (strL x.1), .bool x.2, .string (strL s), .int .i64 (strL s).size, .bool (decide (60 < ((strL s).size : Int))), .string (strL s), .func (.func 105) #[] #[.pointer (some ⟨w.heap.size + 1 + 1 + 1, 0, none⟩)], .string (strL x.1), .bool x.2, undef, undef, undef, undef, undef, undef, undef], defers := [] }) ?assign ?body ?done ?stop
  case assign =>
    intro l x W K hK
    dsimp only [encNB]
    gi_wp2
    exact hK
  case body =>
    rintro l pre ⟨nm, ok⟩ W ⟨⟨⟨v, hv, hrow, hall⟩, hbR, hbQ⟩, hB⟩ hlt
    have hpl : (fsts pre).length < 61 := by simpa [fsts] using hlt
    cases ok with
    | false =>
      have cR := hbR.cell
      have fR := hbR.frozen
      have cQ := hbQ.cell
      have fQ := hbQ.frozen
      have hR2 : Boxed ((W.setCell ⟨w.heap.size, 0, none⟩ (.slice none 0 0)).setCell ⟨w.heap.size + 1, 0, none⟩ (.bool false)) w.heap.size 64 (.slice none 0 0) := (hbR.set _).other (by omega) _
      have hQ1 : Boxed (W.setCell ⟨w.heap.size, 0, none⟩ (.slice none 0 0)) (w.heap.size + 1) 4 (.bool false) := hbQ.other (by omega) _
      have hQ2 := hQ1.set (.bool false)
      have cQ1 := hQ1.cell
      have fQ1 := hQ1.frozen
      gi_wp2
      exact ⟨((KeepsOthers.setCell _ _ _).trans (KeepsOthers.setCell _ _ _)).from _, ⟨⟨rfl, by simp⟩, hR2, hQ2⟩, (hB.setCell (p := ⟨w.heap.size, 0, none⟩) (Nat.le_refl _) _).setCell (p := ⟨w.heap.size + 1, 0, none⟩) (by simp) _⟩
    | true =>
      have hc := hv.cell
      gi_wp2_with (gi_at_builtin; refine wpListIn_append_own _ rfl _ _ 64 rfl w.heap.size 9 i0 (.string ⟨#[]⟩) 1 16 Tryz.underlying64 hi hz0 hz1 hz2 rfl (by decide) _ _ _ rfl (hrow.alloc _) ⟨W.heap.size, 0, none⟩ 1 1 [.string (strL nm)] rfl rfl (cell_one_new _ _ _) (by simp [Value.oneCell']) (by unfold maxLen; omega) (by omega) (by have := hB.size; simp; omega) ?_; intro v' w1 hown' hgrow _; obtain ⟨g', cap', rfl⟩ := ownsRow_succ hown'; obtain ⟨hv1, hv2, hr2, hk2, hb2⟩ := hv.appended (by decide) hrow hB.size (by omega) hown' hgrow; have hc1 := hv1.cell; have hf1 := hv1.frozen)
      have hR1 := (((hbR.alloc _).kept hgrow (hbR.not_row (by decide) hrow)).other (show w.heap.size ≠ w.heap.size + 1 + 1 by omega) (.slice (some ⟨g', 0, none⟩) ((fsts pre).length + 1) cap'))
      have hQ1 := (((hbQ.alloc _).kept hgrow (hbQ.not_row (by decide) hrow)).other (show w.heap.size + 1 ≠ w.heap.size + 1 + 1 by omega) (.slice (some ⟨g', 0, none⟩) ((fsts pre).length + 1) cap'))
      exact ⟨hk2.from _, hb2, ⟨⟨_, hv2, by rw [fsts_snoc]; simpa [strCells] using hr2, by simp [hall]⟩, hR1, hQ1⟩, hB.trans hb2⟩
  case done =>
    rintro D ys W hD rfl ⟨⟨⟨v, hv, hrow, hall⟩, hbR, hbQ⟩, hB⟩ hK
    have HS : Hid (namesL s = some (fsts (pairsL s))) := by
      show _ = _
      rw [HPN.out, if_pos hall]
    have hfl : (fsts (pairsL s)).length ≤ 61 := by rw [fsts, List.length_map]; exact HPL.out
    obtain ⟨va, vn, vc, rfl⟩ : ∃ va vn vc, v = .slice va vn vc := by
      rcases hrow.2 with ⟨rfl, _⟩ | ⟨g, cap, cur, rfl, _⟩
      · exact ⟨_, _, _, rfl⟩
      · exact ⟨_, _, _, rfl⟩
    have cO := hv.cell
    have cR := hbR.cell
    have fR := hbR.frozen
    have hQ1 : Boxed (W.setCell ⟨w.heap.size, 0, none⟩ (.slice va vn vc)) (w.heap.size + 1) 4 (.bool false) := hbQ.other (by omega) _
    have hR1 := hbR.set (.slice va vn vc)
    have cQ1 := hQ1.cell
    have fQ1 := hQ1.frozen
    have hQ2 := hQ1.set (.bool true)
    have hR2 := hR1.other (show w.heap.size ≠ w.heap.size + 1 by omega) (.bool true)
    have hrow1 := hrow.kept (grownBy_setCell' W w.heap.size (.slice va vn vc)) (.inr (hbR.not_row (by decide) hrow).symm)
    have hrow2 := hrow1.kept (grownBy_setCell' _ (w.heap.size + 1) (.bool true)) (.inr (hQ1.not_row (by decide) hrow1).symm)
    have hK' := ((KeepsOthers.setCell W ⟨w.heap.size, 0, none⟩ (.slice va vn vc)).trans (KeepsOthers.setCell _ ⟨w.heap.size + 1, 0, none⟩ (.bool true))).same D _ hK rfl
    have hB2 := (hB.setCell (p := ⟨w.heap.size, 0, none⟩) (Nat.le_refl _) (.slice va vn vc)).setCell (p := ⟨w.heap.size + 1, 0, none⟩) (by simp) (.bool true)
    gi_wp2
    refine ⟨by simp, .inl ⟨_, _, rfl, run_takeDeferred hK', ?_⟩⟩
    have kR := cell_kept hR2.cell (grownBy_putObj' _ D (.deferred none)) (fun r e => by cases e; exact ⟨_, hK', rfl⟩)
    have kQ := cell_kept hQ2.cell (grownBy_putObj' _ D (.deferred none)) (fun r e => by cases e; exact ⟨_, hK', rfl⟩)
    refine ⟨.tuple #[.slice va vn vc, .bool true], ?_, NamesIs.yes HS.out (by omega) (Nat.le_refl _) (ownsRow_putObj hrow2 _ hK' rfl) (hB2.trans (belowK_b (w := w) (Nat.le_refl _) _ D _ _ (by simp at hD; omega) hK' rfl rfl))⟩
    simp [results, Tryz.f96, go_sem, kR, kQ]
  case stop =>
    rintro D c pre W hD hpre ⟨⟨⟨rfl, hno⟩, hbR, hbQ⟩, hB⟩ hK
    have HS : Hid (namesL s = none) := by
      show _ = _
      rw [HPN.out, if_neg]
      intro hall
      rw [List.all_eq_true] at hall
      rw [List.all_eq_false] at hno
      obtain ⟨x, hx, hn⟩ := hno
      exact hn (hall x (hpre.subset hx))
    gi_wp2
    refine ⟨by simp, .inl ⟨_, _, rfl, run_takeDeferred hK, ?_⟩⟩
    have kR := cell_kept hbR.cell (grownBy_putObj' _ D (.deferred none)) (fun r e => by cases e; exact ⟨_, hK, rfl⟩)
    have kQ := cell_kept hbQ.cell (grownBy_putObj' _ D (.deferred none)) (fun r e => by cases e; exact ⟨_, hK, rfl⟩)
    refine ⟨.tuple #[.slice none 0 0, .bool false], ?_, NamesIs.no HS.out (hB.trans (belowK_b (w := w) (Nat.le_refl _) _ D _ _ (by simp at hD; omega) hK rfl rfl))⟩
    simp [results, Tryz.f96, go_sem, kR, kQ]

set_option maxRecDepth 100000 in
set_option maxHeartbeats 4000000 in
theorem implPathOf_long (s : ByteArray) (w : World) (hlen : 60 < s.size) :
    CallsIn Fence.wide 5 Tryz.prog 96 #[.string s] w (NamesIs s.data.toList w) := by
  have HS : Hid (namesL s.data.toList = none) := by
    have : s.data.toList.length = s.size := Array.length_toList
    show _ = _
    unfold namesL
    rw [if_neg (fun h => by omega)]
  refine callsIn_of_wp Tryz.func96 rfl trivial ?_ rfl
  simp only [Tryz.ntmps96, List.size_toArray, List.length_cons, List.length_nil, Nat.reduceAdd, Nat.reduceSub, Array.replicate_succ, Array.replicate_zero, List.push_toArray, List.append_toArray, List.nil_append, List.cons_append]
  gi_wp2_with fail
  exact bodyPost_ret (v := .tuple #[.slice none 0 0, .bool false]) (by simp [results, Tryz.f96, go_sem]) rfl (NamesIs.no HS.out (((Below.refl _ w).alloc (Nat.le_refl _) _).alloc (by simp) _))

/-- PathOf, at every text. -/
theorem implPathOf_any (s : ByteArray) (w : World) (hml : ML w) :
    Calls Tryz.prog 96 #[.string s] w (NamesIs s.data.toList w) := by
  refine (callsIn_wide (n := 5)).1 ?_
  by_cases h : s.size ≤ 60
  · have := implPathOf_in s.data.toList w hml (by rw [Array.length_toList]; exact h)
    exact this
  · exact implPathOf_long s w (by omega)

end Go.Proofs.YtjohocnfcnjciaaGreatDoor
