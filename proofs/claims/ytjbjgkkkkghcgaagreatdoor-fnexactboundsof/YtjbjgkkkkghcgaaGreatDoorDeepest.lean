/- How deep a value is: the program's reckoning. -/
import Derived.Test.YtjbjgkkkkghcgaaGreatDoorPlace
import Derived.Test.YtjbjgkkkkghcgaaGreatDoorStrs0
namespace Go.Proofs.YtjbjgkkkkghcgaaGreatDoor
open Go.RowKit
set_option linter.unusedVariables false

set_option maxHeartbeats 400000 in
theorem hasParts_is (k : Int) (v : Bool) (w : World) (h : holdsB k = v) : Calls Tryz.prog 77 #[.int .i64 k] w fun e w' => e = .returned (.bool v) ∧ w' = w := by
  subst h
  unfold holdsB
  by_cases h6 : k = 6
  · subst h6
    go_enter Tryz.func77, Tryz.ntmps77
    go_wp2
    go_ret
    exact ⟨rfl, rfl⟩
  · have e6 : (k == 6) = false := by simpa using h6
    rw [decide_eq_false h6]
    by_cases h7 : k = 7
    · subst h7
      go_enter Tryz.func77, Tryz.ntmps77
      go_wp2
      go_ret
      exact ⟨rfl, rfl⟩
    · have e7 : (k == 7) = false := by simpa using h7
      rw [decide_eq_false h7]
      go_enter Tryz.func77, Tryz.ntmps77
      go_wp2
      go_ret
      exact ⟨rfl, rfl⟩

set_option maxHeartbeats 400000 in
theorem l1Holds_is (k : Int) (v : Bool) (w : World) (h : holdsB k = v) : Calls Tryz.prog 56 #[.int .i64 k] w fun e w' => e = .returned (.bool v) ∧ w' = w := by
  subst h
  unfold holdsB
  by_cases h6 : k = 6
  · subst h6
    go_enter Tryz.func56, Tryz.ntmps56
    go_wp2
    go_ret
    exact ⟨rfl, rfl⟩
  · have e6 : (k == 6) = false := by simpa using h6
    rw [decide_eq_false h6]
    by_cases h7 : k = 7
    · subst h7
      go_enter Tryz.func56, Tryz.ntmps56
      go_wp2
      go_ret
      exact ⟨rfl, rfl⟩
    · have e7 : (k == 7) = false := by simpa using h7
      rw [decide_eq_false h7]
      go_enter Tryz.func56, Tryz.ntmps56
      go_wp2
      go_ret
      exact ⟨rfl, rfl⟩

/-- n whole numbers f lie in block g, and may be written. -/
def IntsAt (w : World) (g n : Nat) (f : Nat → Int) : Prop := ∀ i, i < n → w.cell? ⟨g, i, none⟩ = some (.int .i64 (f i)) ∧ w.frozen? ⟨g, i, none⟩ = false

theorem IntsAt.below {w w' : World} {B g n : Nat} {f : Nat → Int} (h : IntsAt w g n f) (hb : Below B w w') (hB : g < B) : IntsAt w' g n f := fun i hi =>
  ⟨(hb.cell hB).trans (h i hi).1, (hb.frozen hB).trans (h i hi).2⟩
theorem IntsAt.set {w : World} {g n k : Nat} {f : Nat → Int} (h : IntsAt w g n f) (hk : k < n) (x : Int) : IntsAt (w.setCell ⟨g, k, none⟩ (.int .i64 x)) g n (fun i => if i = k then x else f i) := fun i hi => by
  rw [cell_set (by rw [(h k hk).1]; rfl), World.frozen?_setCell]
  refine ⟨?_, (h i hi).2⟩
  by_cases e : i = k
  · simp [e]
  · simp [e, (h i hi).1]

theorem infoInt : (Tryz.prog.info? 3).map (fun i => (i.zero, i.size, i.bytes)) = some (some (.int .i64 0), 1, 8) := by kernel_rfl

theorem make_ints (n : Nat) (hn : n ≤ 2 ^ 30) (W : World) : (Instr.makeSlice 54 (.int .i64 (n : Int)) (.int .i64 (n : Int))).run Tryz.prog W = .ok (.slice (some ⟨W.heap.size, 0, none⟩) n n) (W.alloc (.cells (madeCells #[.int .i64 0] n) 3)) := by
  obtain ⟨i0, hi, hz0, hz1, hz2⟩ := info_parts infoInt
  have h := run_make (P := Tryz.prog) W 54 3 i0 _ Tryz.underlying54 hi hz0 .i64 .i64 n n (by omega) (by omega) (by rw [hz2]; omega) (by omega)
  rw [hz1] at h
  simpa [Value.cells] using h


theorem ints_made (n : Nat) (W : World) (T : TypeId) : IntsAt (W.alloc (.cells (madeCells #[.int .i64 0] n) T)) W.heap.size n (fun _ => 0) := fun i hi =>
  ⟨by rw [World.cell?_alloc_new, made_one _ _ _ hi], World.frozen?_alloc_new _ _ _ _⟩

/-- The greatest depth of the first k nodes. -/
def deepTo (N : Nat → Nd) : Nat → Nat
  | 0 => 0
  | k + 1 => max (deepTo N k) (depth N k)

theorem deepTo_le (N : Nat → Nd) (d : Nat) : ∀ k, deepTo N k ≤ d ↔ ∀ i, i < k → depth N i ≤ d := by
  intro k
  induction k with
  | zero => simp [deepTo]
  | succ k ih =>
    simp only [deepTo, Nat.max_le, ih]
    refine ⟨fun ⟨h1, h2⟩ i hi => ?_, fun h => ⟨fun i hi => h i (by omega), h k (by omega)⟩⟩
    by_cases e : i = k
    · subst e; exact h2
    · exact h1 i (by omega)

theorem depth_le_deepTo (N : Nat → Nd) {k n : Nat} (h : k < n) : depth N k ≤ deepTo N n := (deepTo_le N _ n).1 (Nat.le_refl _) k h
theorem deepTo_bound {N : Nat → Nd} {n : Nat} (h : Pre N n) : deepTo N n ≤ n := (deepTo_le N n n).2 fun i hi => by
  have := depth_le h i hi
  omega
theorem deepTo_mono (N : Nat → Nd) {k n : Nat} (h : k ≤ n) : deepTo N k ≤ deepTo N n := (deepTo_le N _ k).2 fun i hi => depth_le_deepTo N (by omega)

theorem IntsAt.congr {w : World} {g n : Nat} {f f' : Nat → Int} (h : IntsAt w g n f) (e : ∀ i, i < n → f i = f' i) : IntsAt w g n f' := fun i hi => by
  rw [← e i hi]
  exact h i hi
theorem IntsAt.alloc {w : World} {g n : Nat} {f : Nat → Int} (h : IntsAt w g n f) (hg : g < w.heap.size) (o : Obj) : IntsAt (w.alloc o) g n f := h.below ((Below.refl _ _).alloc (Nat.le_refl _) o) hg
theorem max_step {N : Nat → Nd} {k : Nat} {x : Int} (hx : x = depth N k) : (if ((deepTo N k : Nat) : Int) < x then x else ((deepTo N k : Nat) : Int)) = ((deepTo N (k + 1) : Nat) : Int) := by
  subst hx
  show _ = ((max (deepTo N k) (depth N k) : Nat) : Int)
  split <;> omega
theorem max_step2 {N : Nat → Nd} {k d : Nat} (hx : d = depth N k) : (if deepTo N k < d then (d : Int) else ((deepTo N k : Nat) : Int)) = ((deepTo N (k + 1) : Nat) : Int) := by
  subst hx
  show _ = ((max (deepTo N k) (depth N k) : Nat) : Int)
  split <;> omega
theorem ret_int {a b : Int} (h : a = b) : (Value.int .i64 a) = .int .i64 b := by rw [h]

set_option maxRecDepth 100000 in
set_option maxHeartbeats 2000000 in
theorem deepest_any (b off c n : Nat) (N : Nat → Nd) (w : World) (hb : b < w.heap.size) (h : NodesAt w b off n N) (hn : n ≤ 80) (hpre : Pre N n) :
    Calls Tryz.prog 62 #[.slice (some ⟨b, off, none⟩) n c] w fun e w' => e = .returned (.int .i64 (deepTo N n)) ∧ Below w.heap.size w w' := by
  have H : Hid (NodesAt w b off n N) := h
  have HP : Hid (Pre N n) := hpre
  clear h hpre
  have hmw := make_ints n (by omega) w
  have n1 := ints_made n w 3
  obtain ⟨W, hW⟩ : ∃ W, W = w.alloc (.cells (madeCells #[.int .i64 0] n) 3) := ⟨_, rfl⟩
  have hsz : W.heap.size = w.heap.size + 1 := by rw [hW]; simp
  have hbl : Below w.heap.size w W := by rw [hW]; go_grown
  rw [← hW] at n1 hmw
  have HN : Hid (IntsAt W w.heap.size n (fun _ => 0)) := n1
  clear n1 hW
  go_enter Tryz.func62, Tryz.ntmps62
  go_wp2_with fail
  go_loopw [3, 12] (fun m i wr => ∃ k : Nat, k ≤ n ∧ i = .int .i64 k ∧ m = .int .i64 (deepTo N k) ∧ Below w.heap.size w wr ∧ w.heap.size < wr.heap.size ∧ Hid (IntsAt wr w.heap.size n (fun j => if j < k then (depth N j : Int) else 0))) (fun _ i _ => n - (intOf i).toNat)
  case atStart => exact ⟨0, Nat.zero_le _, rfl, rfl, hbl, by omega, by show IntsAt _ _ _ _; simpa using HN.out⟩
  case round =>
    obtain ⟨k, hk, rfl, rfl, hnx, hlt0, HI⟩ := hrel
    by_cases hlt : k < n
    · obtain ⟨a0, a1, a2, a3, a4⟩ := H.out.below hnx hb k hlt
      have i0 : (0 : Int) ≤ (k : Int) := by omega
      have i1 : (k : Int) < (n : Int) := by omega
      have hbw : b < wr.heap.size := Nat.lt_of_lt_of_le hb hnx.size
      have l0 := (HI.out k hlt).1
      have l1 := (HI.out k hlt).2
      simp only [Nat.lt_irrefl, if_false] at l0
      have hd1 := depth_le_deepTo N hlt
      have hd2 := deepTo_bound HP.out
      have hd3 := deepTo_mono N (show k ≤ n by omega)
      by_cases h0 : 0 < k
      · have hp := HP.out.par_lt h0 hlt
        have hde := depth_pos HP.out h0 hlt
        rw [HP.out.par_eq h0 hlt] at a4
        obtain ⟨p, hpp⟩ : ∃ p, p = par N k := ⟨_, rfl⟩
        rw [← hpp] at a4 hp hde
        have m0 := (HI.out p (by omega)).1
        simp only [if_pos hp] at m0
        have m1 : (0 : Int) ≤ (p : Int) := by omega
        have m2 : (p : Int) < (n : Int) := by omega
        have h0' : (0 : Int) < (k : Int) := by omega
        cases hh : holdsB (N k).kind with
        | true =>
          have hde' : depth N k = 1 + depth N p := by rw [hde, hN, hh]; rfl
          have HDE : Hid (depth N k = 1 + depth N p) := hde'
          have HH : Hid (holdsB (N k).kind = true) := hh
          clear hde hde' hh hpp
          have hdp : (depth N p : Int) ≤ 80 := by have := HDE.out; omega
          go_wp2_with (go_at_call 77; refine (hasParts_is _ true _ HH.out).mono ?_; rintro e w' ⟨rfl, rfl⟩)
          have r1 := (((HI.out).set hlt (depth N p)).set hlt ((depth N p : Int) + 1)).alloc (by simpa using hlt0) (.cells #[.int .i64 (N k).kind, .int .i64 (N k).num, .string (N k).text, .string (N k).name, .int .i64 p] 66)
          go_roundw
          case rel =>
            refine ⟨k + 1, by omega, by go_num, ret_int (max_step (by rw [HDE.out]; omega)), ((hnx.setCell (by simp) _).setCell (by simp) _).alloc (by simp; omega) _, by simp; omega, r1.congr fun i hi => ?_⟩
            by_cases e : i = k
            · subst e; simp [HDE.out]; omega
            · by_cases e2 : i < k
              · simp [e, e2, Nat.lt_succ_of_lt e2]
              · have e3 : ¬ i < k + 1 := by omega
                simp [e, e2, e3]
          case measure => simp [intOf]; omega
        | false =>
          have hde' : depth N k = depth N p := by rw [hde, hN, hh]; simp
          have HDE : Hid (depth N k = depth N p) := hde'
          have HH : Hid (holdsB (N k).kind = false) := hh
          clear hde hde' hh hpp
          have hdp : (depth N p : Int) ≤ 80 := by have := HDE.out; omega
          go_wp2_with (go_at_call 77; refine (hasParts_is _ false _ HH.out).mono ?_; rintro e w' ⟨rfl, rfl⟩)
          have r1 := ((HI.out).set hlt (depth N p)).alloc (by simpa using hlt0) (.cells #[.int .i64 (N k).kind, .int .i64 (N k).num, .string (N k).text, .string (N k).name, .int .i64 p] 66)
          go_roundw
          case rel =>
            refine ⟨k + 1, by omega, by go_num, ret_int (max_step2 (by rw [HDE.out])), (hnx.setCell (by simp) _).alloc (by simp; omega) _, by simp; omega, r1.congr fun i hi => ?_⟩
            by_cases e : i = k
            · subst e; simp [HDE.out]
            · by_cases e2 : i < k
              · simp [e, e2, Nat.lt_succ_of_lt e2]
              · have e3 : ¬ i < k + 1 := by omega
                simp [e, e2, e3]
          case measure => simp [intOf]; omega
      · have h0' : ¬ (0 : Int) < (k : Int) := by omega
        have hk0 : k = 0 := by omega
        cases hh : holdsB (N k).kind with
        | true =>
          have HDE : Hid (depth N k = 1) := by show _ = _; rw [hk0, depth_zero, hN, ← hk0, hh]; rfl
          have HH : Hid (holdsB (N k).kind = true) := hh
          have HK : Hid (k = 0) := hk0
          clear hk0 hh
          go_wp2_with (go_at_call 77; refine (hasParts_is _ true _ HH.out).mono ?_; rintro e w' ⟨rfl, rfl⟩)
          have r1 := ((HI.out).set hlt 1).alloc (by simpa using hlt0) (.cells #[.int .i64 (N k).kind, .int .i64 (N k).num, .string (N k).text, .string (N k).name, .int .i64 (N k).up] 66)
          go_roundw
          case rel =>
            refine ⟨k + 1, by omega, by go_num, ret_int (max_step (by rw [HDE.out]; rfl)), (hnx.setCell (by simp) _).alloc (by simp; omega) _, by simp; omega, r1.congr fun i hi => ?_⟩
            by_cases e : i = k
            · subst e; simp [HDE.out]
            · have e2 : ¬ i < k := by omega
              have e3 : ¬ i < k + 1 := by omega
              simp [e, e2, e3]
          case measure => simp [intOf]; omega
        | false =>
          have HDE : Hid (depth N k = 0) := by show _ = _; rw [hk0, depth_zero, hN, ← hk0, hh]; rfl
          have HH : Hid (holdsB (N k).kind = false) := hh
          have HK : Hid (k = 0) := hk0
          clear hk0 hh
          go_wp2_with (go_at_call 77; refine (hasParts_is _ false _ HH.out).mono ?_; rintro e w' ⟨rfl, rfl⟩)
          have r1 := (HI.out).alloc hlt0 (.cells #[.int .i64 (N k).kind, .int .i64 (N k).num, .string (N k).text, .string (N k).name, .int .i64 (N k).up] 66)
          go_roundw
          case rel =>
            refine ⟨k + 1, by omega, by go_num, ret_int (by show _ = ((max (deepTo N k) (depth N k) : Nat) : Int); rw [HDE.out]; simp), hnx.alloc (by omega) _, by simp; omega, r1.congr fun i hi => ?_⟩
            by_cases e : i = k
            · subst e; simp [HDE.out]
            · have e2 : ¬ i < k := by omega
              have e3 : ¬ i < k + 1 := by omega
              simp [e2, e3]
          case measure => simp [intOf]; omega
    · go_wp2
      go_ret
      obtain rfl : k = n := by omega
      exact ⟨rfl, hnx⟩

end Go.Proofs.YtjbjgkkkkghcgaaGreatDoor
