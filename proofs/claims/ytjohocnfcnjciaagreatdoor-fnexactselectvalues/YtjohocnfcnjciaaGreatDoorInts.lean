/- What the law's small helpers do with a list of whole numbers. No condition. -/
import Derived.Test.YtjohocnfcnjciaaGreatDoorGoodOwn
namespace Go.Proofs.YtjohocnfcnjciaaGreatDoor
open Go.RowKit
set_option linter.unusedVariables false

/-- The slice value v is n whole numbers f, at the head of block g, which may be written. -/
def OwnI (w : World) (g : Nat) (v : Value) (n : Nat) (f : Nat → Int) : Prop :=
  ∃ a c, v = .slice a n c ∧ n ≤ 2 ^ 30 ∧ (n = 0 ∨ (a = some ⟨g, 0, none⟩ ∧ g < w.heap.size ∧ IntsAt w g n f))

theorem OwnI.below {w w' : World} {g : Nat} {v : Value} {n : Nat} {f : Nat → Int} (h : OwnI w g v n f) (hb : Below w.heap.size w w') : OwnI w' g v n f := by
  obtain ⟨a, c, rfl, hn, h0 | ⟨rfl, hlt, hat⟩⟩ := h
  · exact ⟨a, c, rfl, hn, .inl h0⟩
  · exact ⟨_, c, rfl, hn, .inr ⟨rfl, Nat.lt_of_lt_of_le hlt hb.size, hat.below hb hlt⟩⟩
theorem OwnI.but {w w' : World} {b g : Nat} {v : Value} {n : Nat} {f : Nat → Int} (h : OwnI w g v n f) (hb : BelowBut w.heap.size b w w') (hne : g ≠ b) : OwnI w' g v n f := by
  obtain ⟨a, c, rfl, hn, h0 | ⟨rfl, hlt, hat⟩⟩ := h
  · exact ⟨a, c, rfl, hn, .inl h0⟩
  · exact ⟨_, c, rfl, hn, .inr ⟨rfl, Nat.lt_of_lt_of_le hlt hb.size, fun i hi => ⟨(hb.cell hlt hne).trans (hat i hi).1, (hb.frozen hlt hne).trans (hat i hi).2⟩⟩⟩

theorem own_row {w : World} {B : Nat} {v : Value} {l : List Nat} (h : w.ownsRow B 3 1 v l.length (intCells l)) (hl : l.length ≤ 2 ^ 30) : ∃ g, B ≤ g ∧ OwnI w g v l.length (fun j => (l.getD j 0 : Nat)) := by
  have hlt := h.lt
  have hcells := @World.ownsRow.cells _ _ _ _ _ _ _ h
  obtain ⟨_, h0 | ⟨g, cap, cur, hv, hg, hh, _⟩⟩ := h
  · obtain ⟨hv, hx⟩ := h0
    refine ⟨B, Nat.le_refl _, none, 0, by rw [hx]; exact hv, hl, .inl hx⟩
  · refine ⟨g, hg, _, _, hv, hl, .inr ⟨rfl, (hlt g (by rw [hv]; rfl)).2, fun j hj => ⟨?_, ?_⟩⟩⟩
    · have := hcells (g := g) (by rw [hv]; rfl) j (.int .i64 (l.getD j 0 : Nat)) (by simp [intCells, List.getElem?_eq_getElem hj, List.getD_eq_getElem?_getD])
      rw [show ((⟨g, 0, none⟩ : Addr).add j) = ⟨g, j, none⟩ by unfold Addr.add; split <;> simp_all] at this
      exact this
    · simp [World.frozen?, hh]

set_option maxHeartbeats 400000 in
theorem eqIntS_some (g1 c1 g2 c2 n : Nat) (f : Nat → Int) (w : World) (hn : n ≤ 2 ^ 40) (hb1 : g1 < w.heap.size) (hb2 : g2 < w.heap.size) (h1 : IntsAt w g1 n f) (h2 : IntsAt w g2 n f) :
    Calls Tryz.prog 22 #[.slice (some ⟨g1, 0, none⟩) n c1, .slice (some ⟨g2, 0, none⟩) n c2] w fun e w' => e = .returned (.bool true) ∧ Below w.heap.size w w' := by
  have H1 : Hid (IntsAt w g1 n f) := h1
  have H2 : Hid (IntsAt w g2 n f) := h2
  clear h1 h2
  go_enter Tryz.func22, Tryz.ntmps22
  go_wp2_with fail
  go_loopw [5] (fun i wr => ∃ k : Nat, k ≤ n ∧ i = .int .i64 k ∧ Below w.heap.size w wr) (fun i _ => n - (intOf i).toNat)
  case atStart => exact ⟨0, Nat.zero_le _, rfl, Below.refl _ _⟩
  case round =>
    obtain ⟨k, hk, rfl, hnx⟩ := hrel
    by_cases hlt : k < n
    · have a0 := ((H1.out.below hnx hb1) k hlt).1
      have d0 := ((H2.out.below hnx hb2) k hlt).1
      have i0 : (0 : Int) ≤ (k : Int) := by omega
      have i1 : (k : Int) < (n : Int) := by omega
      go_wp2_with fail
      go_region_held3 (fun w' => w'.cell? ⟨g1, k, none⟩ = some (.int .i64 (f k)) ∧ w'.cell? ⟨g2, k, none⟩ = some (.int .i64 (f k))) (exact ⟨a0, d0⟩) (fail)
      go_wp2
      go_roundw
      case rel => exact ⟨k + 1, by omega, by go_num, hnx.drew⟩
      case measure => simp [intOf]; omega
    · go_wp2
      go_ret
      exact ⟨rfl, hnx⟩

set_option maxHeartbeats 400000 in
theorem eqIntS_none (a1 a2 : Option Addr) (c1 c2 : Nat) (w : World) :
    Calls Tryz.prog 22 #[.slice a1 0 c1, .slice a2 0 c2] w fun e w' => e = .returned (.bool true) ∧ Below w.heap.size w w' := by
  go_enter Tryz.func22, Tryz.ntmps22
  go_wp2
  go_rounds 1
  go_ret
  exact ⟨rfl, by go_grown⟩

theorem eqIntS_any (v1 v2 : Value) (g1 g2 n : Nat) (f : Nat → Int) (w : World) (h1 : OwnI w g1 v1 n f) (h2 : OwnI w g2 v2 n f) :
    Calls Tryz.prog 22 #[v1, v2] w fun e w' => e = .returned (.bool true) ∧ Below w.heap.size w w' := by
  obtain ⟨a1, c1, rfl, hn, h1⟩ := h1
  obtain ⟨a2, c2, rfl, _, h2⟩ := h2
  rcases h1 with rfl | ⟨rfl, q1, h1⟩
  · exact eqIntS_none a1 a2 c1 c2 w
  · rcases h2 with rfl | ⟨rfl, q2, h2⟩
    · exact eqIntS_none _ a2 c1 c2 w
    · exact eqIntS_some g1 c1 g2 c2 n f w (by omega) q1 q2 h1 h2

set_option maxHeartbeats 400000 in
theorem markIntS_some (g c n : Nat) (f : Nat → Int) (k0 : Int) (w : World) (hn : n ≤ 2 ^ 30) (hk0 : 0 < k0) (hk1 : k0 ≤ 2 ^ 30) (h : IntsAt w g n f) :
    Calls Tryz.prog 25 #[.slice (some ⟨g, 0, none⟩) n c, .int .i64 k0] w fun e w' => e = .returned (.int .i64 (k0 + n)) ∧ BelowBut w.heap.size g w w' ∧ IntsAt w' g n (fun i => k0 + i) := by
  have H : Hid (IntsAt w g n f) := h
  clear h
  go_enter Tryz.func25, Tryz.ntmps25
  go_wp2_with fail
  go_loopw [1, 5] (fun q i wr => ∃ k : Nat, k ≤ n ∧ i = .int .i64 k ∧ q = .int .i64 (k0 + k) ∧ BelowBut w.heap.size g w wr ∧ Hid (IntsAt wr g n (fun j => if j < k then k0 + j else f j))) (fun _ i _ => n - (intOf i).toNat)
  case atStart => exact ⟨0, Nat.zero_le _, rfl, by simp, BelowBut.refl _ _ _, by show IntsAt _ _ _ _; simpa using H.out⟩
  case round =>
    obtain ⟨k, hk, rfl, rfl, hnx, HI⟩ := hrel
    by_cases hlt : k < n
    · have l0 := (HI.out k hlt).1
      have l1 := (HI.out k hlt).2
      simp only [Nat.lt_irrefl, if_false] at l0
      have i0 : (0 : Int) ≤ (k : Int) := by omega
      have i1 : (k : Int) < (n : Int) := by omega
      go_wp2
      have r1 := (HI.out).set hlt (k0 + k)
      go_roundw
      case rel =>
        refine ⟨k + 1, by omega, by go_num, by go_num, hnx.trans (BelowBut.setCell _ _ _), r1.congr fun i hi => ?_⟩
        by_cases e : i = k
        · subst e; simp
        · by_cases e2 : i < k
          · simp [e, e2, Nat.lt_succ_of_lt e2]
          · have e3 : ¬ i < k + 1 := by omega
            simp [e, e2, e3]
      case measure => simp [intOf]; omega
    · go_wp2
      go_ret
      obtain rfl : k = n := by omega
      exact ⟨rfl, hnx, HI.out.congr fun i hi => by rw [if_pos hi]⟩

set_option maxHeartbeats 400000 in
theorem markIntS_none (a : Option Addr) (c : Nat) (k0 : Int) (w : World) :
    Calls Tryz.prog 25 #[.slice a 0 c, .int .i64 k0] w fun e w' => e = .returned (.int .i64 k0) ∧ w' = w := by
  go_enter Tryz.func25, Tryz.ntmps25
  go_wp2
  go_rounds 1
  go_ret
  exact ⟨rfl, rfl⟩

theorem markIntS_any (v : Value) (g n : Nat) (f : Nat → Int) (w : World) (h : OwnI w g v n f) :
    Calls Tryz.prog 25 #[v, .int .i64 1] w fun e w' => e = .returned (.int .i64 (1 + n)) ∧ BelowBut w.heap.size g w w' ∧ OwnI w' g v n (fun i => 1 + i) := by
  obtain ⟨a, c, rfl, hn, rfl | ⟨rfl, hlt, hat⟩⟩ := h
  · refine (markIntS_none a c 1 w).mono ?_
    rintro e w1 ⟨rfl, rfl⟩
    exact ⟨by simp, BelowBut.refl _ _ _, a, c, rfl, hn, .inl rfl⟩
  · refine (markIntS_some g c n f 1 w hn (by omega) (by omega) hat).mono ?_
    rintro e w1 ⟨rfl, hb, hi⟩
    exact ⟨rfl, hb, _, c, rfl, hn, .inr ⟨rfl, Nat.lt_of_lt_of_le hlt hb.size, hi⟩⟩

set_option maxHeartbeats 400000 in
theorem heldIntS_some (g c n : Nat) (k0 : Int) (w : World) (hn : n ≤ 2 ^ 30) (hk0 : 0 < k0) (hk1 : k0 ≤ 2 ^ 30) (h : IntsAt w g n (fun i => k0 + i)) :
    Calls Tryz.prog 26 #[.slice (some ⟨g, 0, none⟩) n c, .int .i64 k0] w fun e w' => e = .returned (.int .i64 (k0 + n)) ∧ Below w.heap.size w w' := by
  have H : Hid (IntsAt w g n (fun i => k0 + i)) := h
  clear h
  go_enter Tryz.func26, Tryz.ntmps26
  go_wp2_with fail
  go_loopw [1, 5] (fun q i wr => ∃ k : Nat, k ≤ n ∧ i = .int .i64 k ∧ q = .int .i64 (k0 + k) ∧ Hid (IntsAt wr g n (fun i => k0 + i)) ∧ Below w.heap.size w wr) (fun _ i _ => n - (intOf i).toNat)
  case atStart => exact ⟨0, Nat.zero_le _, rfl, by simp, H, Below.refl _ _⟩
  case round =>
    obtain ⟨k, hk, rfl, rfl, HI, hnx⟩ := hrel
    by_cases hlt : k < n
    · have l0 := (HI.out k hlt).1
      have i0 : (0 : Int) ≤ (k : Int) := by omega
      have i1 : (k : Int) < (n : Int) := by omega
      go_wp2
      go_roundw
      case rel => exact ⟨k + 1, by omega, by go_num, by go_num, HI, hnx⟩
      case measure => simp [intOf]; omega
    · go_wp2
      go_ret
      obtain rfl : k = n := by omega
      exact ⟨rfl, hnx⟩

set_option maxHeartbeats 400000 in
theorem heldIntS_none (a : Option Addr) (c : Nat) (k0 : Int) (w : World) :
    Calls Tryz.prog 26 #[.slice a 0 c, .int .i64 k0] w fun e w' => e = .returned (.int .i64 k0) ∧ w' = w := by
  go_enter Tryz.func26, Tryz.ntmps26
  go_wp2
  go_rounds 1
  go_ret
  exact ⟨rfl, rfl⟩

theorem heldIntS_any (v : Value) (g n : Nat) (w : World) (h : OwnI w g v n (fun i => 1 + i)) :
    Calls Tryz.prog 26 #[v, .int .i64 1] w fun e w' => e = .returned (.int .i64 (1 + n)) ∧ Below w.heap.size w w' := by
  obtain ⟨a, c, rfl, hn, rfl | ⟨rfl, hlt, hat⟩⟩ := h
  · refine (heldIntS_none a c 1 w).mono ?_
    rintro e w1 ⟨rfl, rfl⟩
    exact ⟨by simp, Below.refl _ _⟩
  · exact heldIntS_some g c n 1 w hn (by omega) (by omega) hat

end Go.Proofs.YtjohocnfcnjciaaGreatDoor
