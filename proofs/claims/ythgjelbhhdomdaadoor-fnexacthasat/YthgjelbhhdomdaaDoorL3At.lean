/- The part of a tree that a name leads to: the specification's l3At. -/
import Derived.Test.YthgjelbhhdomdaaDoorTreeF
import Derived.Test.YthgjelbhhdomdaaDoorQuote
import Derived.Test.YthgjelbhhdomdaaDoorPathT
namespace Go.Proofs.YthgjelbhhdomdaaDoor
open Go.RowKit
set_option linter.unusedVariables false

/-- Does the name lead to the i-th part? -/
def hitI (k : Int) (nm : List ByteArray) (name : ByteArray) (i : Nat) : Bool := (decide (k = 7) && ((nm.getD i ByteArray.empty).toList == name.toList)) || (decide (k = 6) && ((strL (Lib.decDigits i)).toList == name.toList))
def atI (k : Int) (nm : List ByteArray) (name : ByteArray) (m : Nat) : Option Nat := (List.range m).find? (hitI k nm name)
theorem atI_hit {k : Int} {nm : List ByteArray} {name : ByteArray} {i m : Nat} (hi : i < m) (h : hitI k nm name i = true) (h0 : ∀ j, j < i → hitI k nm name j = false) : atI k nm name m = some i := by
  unfold atI
  obtain ⟨d, rfl⟩ : ∃ d, m = i + (d + 1) := ⟨m - i - 1, by omega⟩
  rw [List.range_add, List.find?_append, List.find?_eq_none.2 (fun x hx => by simp [h0 x (List.mem_range.1 hx)]), List.range_succ_eq_map]
  simp [h]
theorem atI_none {k : Int} {nm : List ByteArray} {name : ByteArray} {m : Nat} (h0 : ∀ j, j < m → hitI k nm name j = false) : atI k nm name m = none := by
  unfold atI
  exact List.find?_eq_none.2 (fun x hx => by simp [h0 x (List.mem_range.1 hx)])
theorem atI_lt {k : Int} {nm : List ByteArray} {name : ByteArray} {m i : Nat} (h : atI k nm name m = some i) : i < m := List.mem_range.1 (List.mem_of_find?_eq_some h)
def atV (o : Option Nat) : Int := match o with
  | some i => (i : Int)
  | none => -1

set_option maxRecDepth 100000 in
set_option maxHeartbeats 4000000 in
theorem l3At_any (k n : Int) (t : ByteArray) (nm : List ByteArray) (ks : List Tr) (v : Value) (name : ByteArray) (w : World) (h : Tree w (.mk k n t nm ks) v) (hnd : k = 7 → nm.length = ks.length) (hc : ks.length ≤ 2 ^ 20) :
    Calls Tryd.prog 95 #[v, .string name] w fun e w' => e = .returned (.int .i64 (atV (atI k nm name ks.length))) ∧ Below w.heap.size w w' := by
  obtain ⟨an, cn, ak, ck, rfl, hnm, hk⟩ := h.open
  have HNM : Hid (NamsAt w (fun _ => True) an nm) := hnm
  have HND : Hid (k = 7 → nm.length = ks.length) := hnd
  clear hnm hk hnd h
  go_enter Tryd.func95, Tryd.ntmps95
  go_wp2_with fail
  go_loopw [9] (fun i wr => ∃ m : Nat, m ≤ ks.length ∧ i = .int .i64 (m : Int) ∧ Hid (∀ j, j < m → hitI k nm name j = false) ∧ Below w.heap.size w wr ∧ w.heap.size < wr.heap.size ∧ wr.cell? ⟨w.heap.size, 0, none⟩ = some (.int .i64 k) ∧ wr.cell? ⟨w.heap.size, 3, none⟩ = some (.slice an nm.length cn)) (fun i _ => ks.length - (intOf i).toNat)
  case atStart => exact ⟨0, Nat.zero_le _, rfl, fun j hj => by omega, by go_grown, by simp, by simp [go_sem], by simp [go_sem]⟩
  case round =>
    obtain ⟨m, hm, rfl, HH, hnx, hzw, u0, u3⟩ := hrel
    by_cases hlt : m < ks.length
    · have j0 : (0 : Int) ≤ (m : Int) := by omega
      have j1 : (m : Int) < (ks.length : Int) := by omega
      by_cases h7 : k = 7
      · have hnl := HND.out h7
        rcases HNM.out with h0 | ⟨gn, rfl, _, hg2, hnc⟩
        · rw [h0] at hnl; simp at hnl; omega
        have hnm2 : wr.cell? ⟨gn, m, none⟩ = some (.string (nm.getD m ByteArray.empty)) := (hnx.cell hg2).trans (hnc m (by omega))
        have j2 : (m : Int) < (nm.length : Int) := by omega
        obtain ⟨nx, hx⟩ : ∃ nx, nx = nm.getD m ByteArray.empty := ⟨_, rfl⟩
        rw [← hx] at hnm2
        have HX : Hid (nx = nm.getD m ByteArray.empty) := hx
        clear hnc hx
        subst h7
        cases heq : (nx.toList == name.toList) with
        | true =>
          have HI : Hid (atI 7 nm name ks.length = some m) := atI_hit hlt (by unfold hitI; rw [← HX.out, heq]; rfl) HH.out
          go_wp2_with fail
          go_ret
          exact ⟨by rw [HI.out]; rfl, hnx⟩
        | false =>
          have HH2 : Hid (∀ j, j < m + 1 → hitI 7 nm name j = false) := fun j hj => by
            by_cases e : j = m
            · subst e; unfold hitI; rw [← HX.out, heq]; rfl
            · exact HH.out j (by omega)
          go_wp2_with fail
          go_roundw
          case rel => exact ⟨m + 1, by omega, by go_num, HH2, hnx, hzw, u0, u3⟩
          case measure => simp [intOf]; omega
      · have e7 : (k == 7) = false := by simpa using h7
        by_cases h6 : k = 6
        · subst h6
          go_wp2_with fail
          refine (l1Num_any _ (m : Int) _ rfl (by omega) (by omega)).mono ?_
          rintro e w1 ⟨rfl, hb1⟩
          have HB : Hid (Below w.heap.size w w1) := hnx.trans (hb1.mono hnx.size)
          have v0 := (hb1.cell (p := ⟨w.heap.size, 0, none⟩) hzw).trans u0
          have v3 := (hb1.cell (p := ⟨w.heap.size, 3, none⟩) hzw).trans u3
          have hz1 : w.heap.size < w1.heap.size := Nat.lt_of_lt_of_le hzw hb1.size
          clear hb1 u0 u3
          rw [show ((m : Int)).toNat = m from rfl]
          cases heq : ((strL (Lib.decDigits m)).toList == name.toList) with
          | true =>
            have HI : Hid (atI 6 nm name ks.length = some m) := atI_hit hlt (by unfold hitI; rw [heq]; simp) HH.out
            go_wp2_with fail
            go_ret
            exact ⟨by rw [HI.out]; rfl, HB.out⟩
          | false =>
            have HH2 : Hid (∀ j, j < m + 1 → hitI 6 nm name j = false) := fun j hj => by
              by_cases e : j = m
              · subst e; unfold hitI; rw [heq]; simp
              · exact HH.out j (by omega)
            go_wp2_with fail
            go_roundw
            case rel => exact ⟨m + 1, by omega, by go_num, HH2, HB.out, hz1, v0, v3⟩
            case measure => simp [intOf]; omega
        · have e6 : (k == 6) = false := by simpa using h6
          have HH2 : Hid (∀ j, j < m + 1 → hitI k nm name j = false) := fun j hj => by unfold hitI; rw [decide_eq_false h7, decide_eq_false h6]; rfl
          go_wp2_with fail
          go_roundw
          case rel => exact ⟨m + 1, by omega, by go_num, HH2, hnx, hzw, u0, u3⟩
          case measure => simp [intOf]; omega
    · obtain rfl : m = ks.length := by omega
      have HI : Hid (atI k nm name ks.length = none) := atI_none HH.out
      go_wp2
      go_ret
      exact ⟨by rw [HI.out]; rfl, hnx⟩

end Go.Proofs.YthgjelbhhdomdaaDoor
