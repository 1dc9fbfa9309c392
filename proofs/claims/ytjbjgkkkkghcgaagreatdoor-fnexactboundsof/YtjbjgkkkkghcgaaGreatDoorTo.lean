/- The law's argument copied into memory of its own. No condition. -/
import Derived.Test.YtjbjgkkkkghcgaaGreatDoorSz
namespace Go.Proofs.YtjbjgkkkkghcgaaGreatDoor
open Go.RowKit

set_option maxHeartbeats 400000 in
theorem toNode_any (k n u : Int) (t m : ByteArray) (w : World) :
    Calls Tryz.prog 74 #[.agg #[.int .i64 k, .int .i64 n, .string t, .string m, .int .i64 u]] w fun e w' => e = .returned (.agg #[.int .i64 k, .int .i64 n, .string t, .string m, .int .i64 u]) ∧ Below w.heap.size w w' := by
  go_enter Tryz.func74, Tryz.ntmps74
  go_wp2
  exact bodyPost_ret (v := .agg #[.int .i64 k, .int .i64 n, .string t, .string m, .int .i64 u]) (by simp [results, Tryz.results74, go_sem]) rfl ⟨rfl, by go_grown⟩

theorem infoNode : (Tryz.prog.info? 66).map (fun i => (i.zero, i.size, i.bytes)) = some (some (.agg #[.int .i64 0, .int .i64 0, .string ⟨#[]⟩, .string ⟨#[]⟩, .int .i64 0]), 5, 56) := by kernel_rfl

def zeroCs : Array Value := #[.int .i64 0, .int .i64 0, .string ⟨#[]⟩, .string ⟨#[]⟩, .int .i64 0]
def zeroNd : Nd := ⟨0, 0, ⟨#[]⟩, ⟨#[]⟩, 0⟩

theorem make_nodes (n : Nat) (hn : n ≤ 2 ^ 30) (W : World) : (Instr.makeSlice 58 (.int .i64 (n : Int)) (.int .i64 (n : Int))).run Tryz.prog W = .ok (.slice (some ⟨W.heap.size, 0, none⟩) n n) (W.alloc (.cells (madeCells zeroCs (n * 5)) 66)) := by
  obtain ⟨i0, hi, hz0, hz1, hz2⟩ := info_parts infoNode
  have h := run_make (P := Tryz.prog) W 58 66 i0 _ Tryz.underlying58 hi hz0 .i64 .i64 n n (by omega) (by omega) (by rw [hz2]; omega) (by omega)
  rw [hz1] at h
  simpa [Value.cells, zeroCs] using h

theorem made_get (n j : Nat) (hj : j < n * 5) : (madeCells zeroCs (n * 5))[j]? = zeroCs[j % 5]? := by
  have : zeroCs.size = 5 := rfl
  simp only [madeCells, Array.getElem?_map, Array.getElem?_range, if_pos hj, Option.map_some, this]
  rw [Array.getElem!_eq_getD, Array.getD_eq_getD_getElem?]
  have h5 : j % 5 < zeroCs.size := by rw [this]; omega
  rw [Array.getElem?_eq_getElem h5]
  rfl

theorem nodes_made (n : Nat) (W : World) (T : TypeId) : NodesAt (W.alloc (.cells (madeCells zeroCs (n * 5)) T)) W.heap.size 0 n (fun _ => zeroNd) ∧ FreeAt (W.alloc (.cells (madeCells zeroCs (n * 5)) T)) W.heap.size 0 n := by
  refine ⟨fun i hi => ?_, fun o ho => World.frozen?_alloc_new _ _ _ _⟩
  simp only [World.cell?_alloc_new]
  refine ⟨?_, ?_, ?_, ?_, ?_⟩
  · rw [made_get _ _ (by omega), show (0 + i * 5) % 5 = 0 by omega]; rfl
  · rw [made_get _ _ (by omega), show (0 + i * 5 + 1) % 5 = 1 by omega]; rfl
  · rw [made_get _ _ (by omega), show (0 + i * 5 + 2) % 5 = 2 by omega]; rfl
  · rw [made_get _ _ (by omega), show (0 + i * 5 + 3) % 5 = 3 by omega]; rfl
  · rw [made_get _ _ (by omega), show (0 + i * 5 + 4) % 5 = 4 by omega]; rfl

/-- A whole node stored. -/
theorem store_step {w1 : World} {b off n k : Nat} {M : Nat → Nd} {x y u : Int} {s t : ByteArray} (hk : k < n) (h : NodesAt w1 b off n M) (hf : FreeAt w1 b off n) (W : World)
    (hW : W = ((((w1.setCell ⟨b, off + k * 5, none⟩ (.int .i64 x)).setCell ⟨b, off + k * 5 + 1, none⟩ (.int .i64 y)).setCell ⟨b, off + k * 5 + 2, none⟩ (.string s)).setCell ⟨b, off + k * 5 + 3, none⟩ (.string t)).setCell ⟨b, off + k * 5 + 4, none⟩ (.int .i64 u)) :
    NodesAt W b off n (fun j => if j = k then ⟨x, y, s, t, u⟩ else M j) ∧ FreeAt W b off n ∧ BelowBut w1.heap.size b w1 W := by
  subst hW
  obtain ⟨a0, a1, a2, a3, a4⟩ := h k hk
  have p3 : ∀ o, (((((w1.setCell ⟨b, off + k * 5, none⟩ (.int .i64 x)).setCell ⟨b, off + k * 5 + 1, none⟩ (.int .i64 y)).setCell ⟨b, off + k * 5 + 2, none⟩ (.string s)).setCell ⟨b, off + k * 5 + 3, none⟩ (.string t)).setCell ⟨b, off + k * 5 + 4, none⟩ (.int .i64 u)).cell? ⟨b, o, none⟩ =
      if o = off + k * 5 + 4 then some (.int .i64 u) else if o = off + k * 5 + 3 then some (.string t) else if o = off + k * 5 + 2 then some (.string s) else if o = off + k * 5 + 1 then some (.int .i64 y) else if o = off + k * 5 then some (.int .i64 x) else w1.cell? ⟨b, o, none⟩ := fun o => by
    have e0 : (w1.cell? ⟨b, off + k * 5, none⟩).isSome = true := by rw [a0]; rfl
    have e1 : ((w1.setCell ⟨b, off + k * 5, none⟩ (.int .i64 x)).cell? ⟨b, off + k * 5 + 1, none⟩).isSome = true := by rw [cell_set e0, if_neg (by omega), a1]; rfl
    have e2 : (((w1.setCell ⟨b, off + k * 5, none⟩ (.int .i64 x)).setCell ⟨b, off + k * 5 + 1, none⟩ (.int .i64 y)).cell? ⟨b, off + k * 5 + 2, none⟩).isSome = true := by rw [cell_set e1, if_neg (by omega), cell_set e0, if_neg (by omega), a2]; rfl
    have e3 : ((((w1.setCell ⟨b, off + k * 5, none⟩ (.int .i64 x)).setCell ⟨b, off + k * 5 + 1, none⟩ (.int .i64 y)).setCell ⟨b, off + k * 5 + 2, none⟩ (.string s)).cell? ⟨b, off + k * 5 + 3, none⟩).isSome = true := by rw [cell_set e2, if_neg (by omega), cell_set e1, if_neg (by omega), cell_set e0, if_neg (by omega), a3]; rfl
    have e4 : (((((w1.setCell ⟨b, off + k * 5, none⟩ (.int .i64 x)).setCell ⟨b, off + k * 5 + 1, none⟩ (.int .i64 y)).setCell ⟨b, off + k * 5 + 2, none⟩ (.string s)).setCell ⟨b, off + k * 5 + 3, none⟩ (.string t)).cell? ⟨b, off + k * 5 + 4, none⟩).isSome = true := by rw [cell_set e3, if_neg (by omega), cell_set e2, if_neg (by omega), cell_set e1, if_neg (by omega), cell_set e0, if_neg (by omega), a4]; rfl
    rw [cell_set e4, cell_set e3, cell_set e2, cell_set e1, cell_set e0]
  refine ⟨fun j hj => ?_, fun o ho => ?_, ?_⟩
  · simp only [p3]
    by_cases e : j = k
    · subst e
      simp
    · obtain ⟨c0, c1, c2, c3, c4⟩ := h j hj
      simp only [if_neg e]
      refine ⟨?_, ?_, ?_, ?_, ?_⟩
      · rw [if_neg (by omega), if_neg (by omega), if_neg (by omega), if_neg (by omega), if_neg (by omega), c0]
      · rw [if_neg (by omega), if_neg (by omega), if_neg (by omega), if_neg (by omega), if_neg (by omega), c1]
      · rw [if_neg (by omega), if_neg (by omega), if_neg (by omega), if_neg (by omega), if_neg (by omega), c2]
      · rw [if_neg (by omega), if_neg (by omega), if_neg (by omega), if_neg (by omega), if_neg (by omega), c3]
      · rw [if_neg (by omega), if_neg (by omega), if_neg (by omega), if_neg (by omega), if_neg (by omega), c4]
  · rw [World.frozen?_setCell, World.frozen?_setCell, World.frozen?_setCell, World.frozen?_setCell, World.frozen?_setCell]
    exact hf o ho
  · exact ((((BelowBut.setCell w1 _ _).trans (BelowBut.setCell _ _ _)).trans (BelowBut.setCell _ _ _)).trans (BelowBut.setCell _ _ _)).trans (BelowBut.setCell _ _ _)

set_option maxHeartbeats 1000000 in
theorem toNodeS_any (a : Option Addr) (c n : Nat) (N : Nat → Nd) (w : World) (hn : n ≤ 2 ^ 20) (h : ArgIs w a n N) :
    Calls Tryz.prog 59 #[.slice a n c] w fun e w' => ∃ v, e = .returned v ∧ OwnAt w' w.heap.size v n N ∧ w.heap.size < w'.heap.size ∧ Below w.heap.size w w' := by
  have H : Hid (ArgIs w a n N) := h
  clear h
  have hmk := make_nodes n (by omega)
  obtain ⟨n1, n2⟩ := nodes_made n w 66
  obtain ⟨W, hW⟩ : ∃ W, W = w.alloc (.cells (madeCells zeroCs (n * 5)) 66) := ⟨_, rfl⟩
  have hsz : W.heap.size = w.heap.size + 1 := by rw [hW]; simp
  have hbl : Below w.heap.size w W := by rw [hW]; go_grown
  rw [← hW] at n1 n2
  have hmw := hmk w
  rw [← hW] at hmw
  clear hmk
  have HN : Hid (NodesAt W w.heap.size 0 n (fun _ => zeroNd) ∧ FreeAt W w.heap.size 0 n) := ⟨n1, n2⟩
  clear n1 n2 hW
  go_enter Tryz.func59, Tryz.ntmps59
  go_wp2_with fail
  go_loopw [4] (fun i wr => ∃ k : Nat, k ≤ n ∧ i = .int .i64 k ∧ Below w.heap.size w wr ∧ w.heap.size < wr.heap.size ∧ Hid (∃ M, NodesAt wr w.heap.size 0 n M ∧ FreeAt wr w.heap.size 0 n ∧ ∀ j, j < k → M j = N j)) (fun i _ => n - (intOf i).toNat)
  case atStart => exact ⟨0, Nat.zero_le _, rfl, hbl, by omega, ⟨_, HN.out.1, HN.out.2, fun j hj => by omega⟩⟩
  case round =>
    obtain ⟨k, hk, rfl, hnx, hlt0, HM⟩ := hrel
    by_cases hlt : k < n
    · rcases H.out with h0 | ⟨b, off, rfl, hb, hat⟩
      · omega
      obtain ⟨a0, a1, a2, a3, a4⟩ := hat.below hnx hb k hlt
      have i0 : (0 : Int) ≤ (k : Int) := by omega
      have i1 : (k : Int) < (n : Int) := by omega
      clear hat
      go_wp2_with fail
      refine (toNode_any _ _ _ _ _ _).mono ?_
      rintro e w1 ⟨rfl, hb1⟩
      obtain ⟨M, m1, m2, m3⟩ := HM.out
      have m1' := m1.below hb1 hlt0
      have m2' := m2.below hb1 hlt0
      obtain ⟨g0, g1, g2, g3, g4⟩ := m1' k hlt
      have f0 := m2' (k * 5) (by omega)
      have f1 := m2' (k * 5 + 1) (by omega)
      have f2 := m2' (k * 5 + 2) (by omega)
      have f3 := m2' (k * 5 + 3) (by omega)
      have f4 := m2' (k * 5 + 4) (by omega)
      simp only [Nat.zero_add] at g0 g1 g2 g3 g4 f0 f1 f2 f3 f4
      have z1 := hb1.size
      have HM1 : Hid (NodesAt w1 w.heap.size 0 n M ∧ FreeAt w1 w.heap.size 0 n ∧ (∀ j, j < k → M j = N j)) := ⟨m1', m2', m3⟩
      have HB : Hid (Below w.heap.size w w1) := hnx.trans (hb1.mono hnx.size)
      clear m1 m2 m3 m1' m2' hb1 HM a0 a1 a2 a3 a4
      go_wp2_with fail
      obtain ⟨r1, r2, r3⟩ := store_step (x := (N k).kind) (y := (N k).num) (s := (N k).text) (t := (N k).name) (u := (N k).up) hlt HM1.out.1 HM1.out.2.1 _ rfl
      simp only [Nat.zero_add] at r1 r2 r3
      go_roundw
      case rel =>
        refine ⟨k + 1, by omega, by go_num, HB.out.trans (r3.below HB.out.size (Nat.le_refl _)), by have := r3.size; omega, ⟨_, r1, r2, fun j hj => ?_⟩⟩
        by_cases e : j = k
        · subst e
          rw [if_pos rfl]
        · rw [if_neg e]
          exact HM1.out.2.2 j (by omega)
      case measure => simp [intOf]; omega
    · go_wp2
      go_ret
      obtain rfl : k = n := by omega
      obtain ⟨M, m1, m2, m3⟩ := HM.out
      refine ⟨_, rfl, ⟨_, k, 0, rfl, by omega, .inr ⟨rfl, hlt0, fun i hi => ?_, m2⟩⟩, hlt0, hnx⟩
      rw [← m3 i hi]
      exact m1 i hi

set_option maxHeartbeats 400000 in
theorem toValue_any (a : Option Addr) (c n : Nat) (N : Nat → Nd) (w : World) (hn : n ≤ 2 ^ 20) (h : ArgIs w a n N) :
    Calls Tryz.prog 43 #[.agg #[.slice a n c]] w fun e w' => ∃ b a' c', e = .returned (.agg #[.slice a' n c']) ∧ w.heap.size ≤ b ∧ b < w'.heap.size ∧ OwnAt w' b (.slice a' n c') n N ∧ Below w.heap.size w w' := by
  have H : Hid (ArgIs w a n N) := h
  clear h
  go_enter Tryz.func43, Tryz.ntmps43
  go_wp2_with fail
  refine (toNodeS_any a c n N _ hn (H.out.below (by go_grown))).mono ?_
  rintro e w1 ⟨v, rfl, ho, hlt, hb⟩
  obtain ⟨a1, c1, rfl⟩ := ho.form
  have x1 : w1.cell? ⟨w.heap.size + 1, 0, none⟩ = some (.slice none 0 0) := by rw [hb.cell (by simp)]; simp [go_sem]
  have x2 : w1.cell? ⟨w.heap.size + 1 + 1, 0, none⟩ = some (.slice none 0 0) := by rw [hb.cell (by simp)]; simp [go_sem]
  have f1 : w1.frozen? ⟨w.heap.size + 1, 0, none⟩ = false := by rw [hb.frozen (by simp)]; simp [go_sem]
  have f2 : w1.frozen? ⟨w.heap.size + 1 + 1, 0, none⟩ = false := by rw [hb.frozen (by simp)]; simp [go_sem]
  have z := hb.size
  simp at z hlt ho
  have z1 : w.heap.size + 1 < w1.heap.size := by omega
  have z2 : w.heap.size + 1 + 1 < w1.heap.size := by omega
  have HO : Hid (OwnAt w1 (w.heap.size + 1 + 1 + 1) (.slice a1 n c1) n N) := ho
  have HB : Hid (Below w.heap.size w w1) := (show Below w.heap.size w _ by go_grown).trans (hb.mono (by simp; omega))
  clear ho hb
  go_wp2
  refine bodyPost_ret (v := .agg #[.slice a1 n c1]) (by simp [results, Tryz.results43, go_sem, x1]) rfl ⟨w.heap.size + 1 + 1 + 1, a1, c1, rfl, by omega, by simp; omega, ?_, ?_⟩
  · exact (HO.out.but (BelowBut.setCell _ _ _) (by omega)).but (BelowBut.setCell _ _ _) (by omega)
  · exact (HB.out.setCell (by simp; omega) _).setCell (by simp) _

end Go.Proofs.YtjbjgkkkkghcgaaGreatDoor
