/- Two treaps joined: the program's isBelow. -/
import Derived.Test.YtnmbnebofbdmfaaTpI
import Derived.Test.YtnmbnebofbdmfaaTpX
namespace Go.Proofs.Ytnmbnebofbdmfaa
open Go.RowKit Go.Shelf
set_option linter.unusedVariables false
attribute [local go_sem] Oper.semAt_some

/-- All keys of one lie below all of the other. -/
def belowB (s t : Bt) : Bool := s.keys.all fun x => t.keys.all fun y => Op.bytesLess x.toList y.toList

set_option maxRecDepth 100000 in
set_option maxHeartbeats 1000000 in
theorem isBelow_in (s t : Bt) (w : World) (hs : BrAt w s) (ht : BrAt w t) (h1 : s.sz ≤ 60) (h2 : t.sz ≤ 60) :
    CallsIn Fence.wide 9 Try.prog 16 #[.pointer s.pa, .pointer t.pa] w fun e w' => e = .returned (.bool (belowB s t)) ∧ Below w.heap.size w w' := by
  refine callsIn_of_wp_marks Try.func16 rfl trivial ?_ rfl
  simp only [Try.ntmps16, List.size_toArray, List.length_cons, List.length_nil, Nat.reduceAdd, Nat.reduceSub, Array.replicate_succ, Array.replicate_zero, List.push_toArray, List.append_toArray, List.nil_append, List.cons_append]
  gi_wp2_with fail
  refine ⟨trivial, (keysOf_in _ _ _).mono ?_⟩
  rintro e w2 ⟨rfl, rfl⟩
  have bH := Boxed.new w 43 (.pointer t.pa)
  have bR := Boxed.new (w.alloc (.cells #[.pointer t.pa] 43)) 4 (.bool false)
  have bA := Boxed.new ((w.alloc (.cells #[.pointer t.pa] 43)).alloc (.cells #[.bool false] 4)) 43 (.pointer s.pa)
  simp only [World.size_alloc] at bR bA
  replace bH := (bH.alloc (.cells #[.bool false] 4)).alloc (.cells #[.pointer s.pa] 43)
  replace bR := bR.alloc (.cells #[.pointer s.pa] 43)
  obtain ⟨W0, hW0⟩ : ∃ W0, W0 = ((w.alloc (.cells #[.pointer t.pa] 43)).alloc (.cells #[.bool false] 4)).alloc (.cells #[.pointer s.pa] 43) := ⟨_, rfl⟩
  have hB0 : Below w.heap.size w W0 := by rw [hW0]; exact (((Below.refl _ w).alloc (Nat.le_refl _) _).alloc (by simp) _).alloc (by simp; omega) _
  have z0 : W0.heap.size = w.heap.size + 1 + 1 + 1 := by rw [hW0]; simp
  rw [← hW0] at bH bR bA ⊢
  clear hW0
  have hls : ∀ b ∈ s.bs, b < w.heap.size := fun b hb => hs.lt hb
  have hlt' : ∀ b ∈ t.bs, b < w.heap.size := fun b hb => ht.lt hb
  obtain ⟨lt, hlt0⟩ : ∃ lt : ByteArray → ByteArray → Bool, lt = fun x y => Op.bytesLess x.toList y.toList := ⟨_, rfl⟩
  have HLT : Hid (∀ x y, lt x y = Op.bytesLess x.toList y.toList) := fun x y => by rw [hlt0]
  have HBB : Hid (belowB s t = s.keys.all fun x => t.keys.all (lt x)) := by show _ = _; rw [hlt0]; rfl
  clear hlt0
  gi_wp2_with fail
  refine wpIn_rangeFunc_ownH rfl (by decide) (gf := 39) (lb := #[.pointer (some ⟨w.heap.size + 1 + 1, 0, none⟩)]) rfl trivial (enters_of Try.func39 (by kernel_rfl) rfl)
    (keys_stops 8 (w.heap.size + 1 + 1) w.heap.size s W0 (by omega) bA.cell (hs.below hB0) hls h1) belowK_t (belowK_b (by omega)) (Below.refl _ _) (fun _ => rfl)
    (fun (pre : List ByteArray) W => ((Boxed W (w.heap.size + 1) 4 (.bool false) ∧ Boxed W w.heap.size 43 (.pointer t.pa)) ∧ (pre.all fun x => t.keys.all (lt x)) = true) ∧ Below w.heap.size w W)
    (fun c (pre : List ByteArray) W => ((c = .ret ∧ (pre.all fun x => t.keys.all (lt x)) = false) ∧ Boxed W (w.heap.size + 1) 4 (.bool false)) ∧ Below w.heap.size w W)
    (OwnFrom.and (OwnFrom.and (OwnFrom.and (Own.from (boxed_own _ _ _) _) (Own.from (boxed_own _ _ _) _)) (ownFrom_pure _ _)) (ownFrom_below (Nat.le_refl _) (by omega)))
    (fun c => OwnFrom.and (OwnFrom.and (ownFrom_pure _ _) (Own.from (boxed_own _ _ _) _)) (ownFrom_below (Nat.le_refl _) (by omega)))
    ⟨⟨⟨bR, bH⟩, rfl⟩, hB0⟩
    (fun x a' W => ∃ Bx, w.heap.size + 1 < Bx ∧ Boxed W Bx 9 (.string x) ∧ a' = { tmps := #[.pointer s.pa, .pointer t.pa, undef, .pointer (some ⟨w.heap.size, 0, none⟩), .pointer (some ⟨w.heap.size + 1, 0, none⟩), .pointer (some ⟨Bx, 0, none⟩), undef, .pointer s.pa, .func (.func 39) #[] #[.pointer (some ⟨w.heap.size + 1 + 1, 0, none⟩)], .string x, undef, undef, undef, undef, undef, undef], defers := [] })
    (fun x a' _ X Y row hs hg hr => by obtain ⟨Bx, h1, h2, h3⟩ := hs; exact ⟨Bx, h1, boxed_own Bx 9 (fun (_ : Unit) => Value.string x) () X Y row h2 hg (fun r e => (hr r e).2), h3⟩)
    ?assign ?body ?done ?stop
  case assign =>
    rintro l pre x W K ⟨⟨⟨bR1, bH1⟩, hal⟩, hB1⟩ hK
    dsimp only [encKey]
    gi_wp2
    exact hK _ _ ((KeepsOthers.alloc _ _).from _) ((Below.refl _ W).alloc hB1.size _) ⟨⟨⟨bR1.alloc _, bH1.alloc _⟩, hal⟩, hB1.alloc hB1.size _⟩ ⟨W.heap.size, bR1.lt, Boxed.new W 9 _, rfl⟩
  case body =>
    rintro l pre x a' W hl ⟨r, hr⟩ ⟨⟨⟨bR1, bH1⟩, hal⟩, hB1⟩ ⟨Bx, hBx, bX, rfl⟩ hlt
    have cH := bH1.cell
    gi_wp2_with fail
    refine ⟨trivial, (CallsIn.inRound l (keysOf_in _ _ _)).mono ?_⟩
    rintro e w' ⟨rfl, rfl⟩
    gi_wp2_with fail
    have hsW := hB1.size
    have bN := Boxed.new W 43 (.pointer t.pa)
    have hr' : (W.alloc (.cells #[.pointer t.pa] 43)).heap[l]? = some (.loop r) := (Below.heap_alloc W _ l (Array.getElem?_eq_some_iff.1 hr).1).trans hr
    refine wpIn_rangeFunc_ownN (l₀ := l) (r₀ := r) rfl hr' (by decide) (gf := 39) (lb := #[.pointer (some ⟨W.heap.size, 0, none⟩)]) rfl trivial (enters_of Try.func39 (by kernel_rfl) rfl)
      ((keys_stops 6 W.heap.size w.heap.size t (W.alloc (.cells #[.pointer t.pa] 43)) (by simp) bN.cell (ht.below (hB1.alloc hsW _)) hlt' h2).inRound l) belowK_t (belowK_b (by simp; omega)) (Below.refl _ _) (fun _ => rfl)
      (fun (pre' : List ByteArray) W' => ((((Boxed W' (w.heap.size + 1) 4 (.bool false) ∧ Boxed W' Bx 9 (.string x)) ∧ Boxed W' w.heap.size 43 (.pointer t.pa))) ∧ pre'.all (lt x) = true) ∧ (Below w.heap.size W W' ∧ KeepsFrom W0.heap.size W W'))
      (fun c (pre' : List ByteArray) W' => ((c = .ret ∧ pre'.all (lt x) = false) ∧ Boxed W' (w.heap.size + 1) 4 (.bool false)) ∧ (Below w.heap.size W W' ∧ KeepsFrom W0.heap.size W W'))
      (OwnFrom.and (OwnFrom.and (OwnFrom.and (OwnFrom.and (Own.from (boxed_own _ _ _) _) (Own.from (boxed_own _ _ _) _)) (Own.from (boxed_own _ _ _) _)) (ownFrom_pure _ _)) (OwnFrom.and (ownFrom_below hsW (by simp; omega)) (ownFrom_keepsFrom (by simp))))
      (fun c => OwnFrom.and (OwnFrom.and (ownFrom_pure _ _) (Own.from (boxed_own _ _ _) _)) (OwnFrom.and (ownFrom_below hsW (by simp; omega)) (ownFrom_keepsFrom (by simp))))
      ⟨⟨⟨⟨bR1.alloc _, bX.alloc _⟩, bH1.alloc _⟩, rfl⟩, (Below.refl _ W).alloc hsW _, (KeepsOthers.alloc _ _).from _⟩
      (fun y a'' _ => a'' = { tmps := #[.pointer s.pa, .pointer t.pa, undef, .pointer (some ⟨w.heap.size, 0, none⟩), .pointer (some ⟨w.heap.size + 1, 0, none⟩), .pointer (some ⟨Bx, 0, none⟩), .string y, .pointer s.pa, .func (.func 39) #[] #[.pointer (some ⟨w.heap.size + 1 + 1, 0, none⟩)], .string x, .pointer t.pa, .func (.func 39) #[] #[.pointer (some ⟨W.heap.size, 0, none⟩)], .string y, undef, undef, undef], defers := [] })
      (fun _ _ _ _ _ _ hs _ _ => hs)
      ?assign2 ?body2 ?done2 ?stop2
    case assign2 =>
      rintro l2 pre' y W' K hi hK
      dsimp only [encKey]
      gi_wp2
      exact hK _ _ (KeepsFrom.refl _ _) (Below.refl _ _) hi rfl
    case body2 =>
      rintro l2 pre' y a'' W' _ _ ⟨⟨⟨⟨bR2, bX2⟩, bH2⟩, hal2⟩, hBW, hKF⟩ rfl _
      have cR := bR2.cell
      have fR := bR2.frozen
      have cX := bX2.cell
      cases hxy : Op.bytesLess x.toList y.toList with
      | true =>
        gi_wp2
        exact ⟨KeepsFrom.refl _ _, Below.refl _ _, ⟨⟨⟨bR2, bX2⟩, bH2⟩, by simp [hal2, HLT.out, hxy]⟩, hBW, hKF⟩
      | false =>
        gi_wp2
        exact ⟨(KeepsOthers.setCell _ _ _).from _, ⟨⟨rfl, by simp [HLT.out, hxy]⟩, bR2.set _⟩, hBW.setCell (p := ⟨w.heap.size + 1, 0, none⟩) (by simp) _, hKF.trans ((KeepsOthers.setCell _ _ _).from _)⟩
    case done2 =>
      rintro ys' W' rfl ⟨⟨⟨⟨bR2, bX2⟩, bH2⟩, hal2⟩, hBW, hKF⟩
      gi_wp2
      exact ⟨hKF, hBW, ⟨⟨bR2, bH2⟩, by simp [hal, hal2]⟩, hB1.trans hBW⟩
    case stop2 =>
      rintro c pre' W' hpre ⟨⟨⟨rfl, hno⟩, bR2⟩, hBW, hKF⟩
      have hno' : t.keys.all (lt x) = false := by
        rw [List.all_eq_false] at hno ⊢
        obtain ⟨y, hy, hn⟩ := hno
        exact ⟨y, hpre.subset hy, hn⟩
      gi_wp2
      exact ⟨hKF, ⟨⟨rfl, by simp [hno']⟩, bR2⟩, hB1.trans hBW⟩
  case done =>
    rintro D zs W hD rfl ⟨⟨⟨bR1, bH1⟩, hal⟩, hB1⟩ hK
    have HB : Hid (belowB s t = true) := HBB.out.trans hal
    have cR := bR1.cell
    have fR := bR1.frozen
    have hR2 := bR1.set (.bool true)
    have hK' := (KeepsOthers.setCell W ⟨w.heap.size + 1, 0, none⟩ (.bool true)).same D _ hK rfl
    have hB2 := hB1.setCell (p := ⟨w.heap.size + 1, 0, none⟩) (by simp) (.bool true)
    gi_wp2
    refine ⟨by simp, .inl ⟨_, _, rfl, run_takeDeferred hK', ?_⟩⟩
    have kR := cell_kept hR2.cell (grownBy_putObj' _ D (.deferred none)) (fun r e => by cases e; exact ⟨_, hK', rfl⟩)
    refine ⟨.bool true, ?_, by rw [HB.out], hB2.trans (belowK_b (w := w) (Nat.le_refl _) _ D _ _ (by omega) hK' rfl rfl)⟩
    simp [results, Try.f16, go_sem, kR]
  case stop =>
    rintro D c pre W hD hpre ⟨⟨⟨rfl, hno⟩, bR1⟩, hB1⟩ hK
    have HB : Hid (belowB s t = false) := by
      show _ = _
      rw [HBB.out]
      rw [List.all_eq_false] at hno ⊢
      obtain ⟨y, hy, hn⟩ := hno
      exact ⟨y, hpre.subset hy, hn⟩
    gi_wp2
    refine ⟨by simp, .inl ⟨_, _, rfl, run_takeDeferred hK, ?_⟩⟩
    have kR := cell_kept bR1.cell (grownBy_putObj' _ D (.deferred none)) (fun r e => by cases e; exact ⟨_, hK, rfl⟩)
    refine ⟨.bool false, ?_, by rw [HB.out], hB1.trans (belowK_b (w := w) (Nat.le_refl _) _ D _ _ (by omega) hK rfl rfl)⟩
    simp [results, Try.f16, go_sem, kR]

theorem isBelow_any (s t : Bt) (w : World) (hs : BrAt w s) (ht : BrAt w t) (h1 : s.sz ≤ 60) (h2 : t.sz ≤ 60) :
    Calls Try.prog 16 #[.pointer s.pa, .pointer t.pa] w fun e w' => e = .returned (.bool (belowB s t)) ∧ Below w.heap.size w w' := (callsIn_wide (n := 9)).1 (isBelow_in s t w hs ht h1 h2)
end Go.Proofs.Ytnmbnebofbdmfaa
