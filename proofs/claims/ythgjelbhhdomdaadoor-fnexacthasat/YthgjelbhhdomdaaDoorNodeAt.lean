/- The node that names lead to: the program's nodeAt. -/
import Derived.Test.YthgjelbhhdomdaaDoorPartN
import Derived.Test.YthgjelbhhdomdaaDoorPathT
namespace Go.Proofs.YthgjelbhhdomdaaDoor
open Go.RowKit
set_option linter.unusedVariables false

/-- The node that names lead to, from k on. -/
def goN (N : Nat → Nd) (len : Nat) : Nat → List ByteArray → Option Nat
  | k, [] => some k
  | k, nm :: r => (findP (partsTo N k len) nm).bind fun p => goN N len p r

theorem parts_mem {N : Nat → Nd} {k j : Nat} {x : ByteArray × Nat} (h : x ∈ partsTo N k j) : x.2 ∈ kidsTo N k j := by
  unfold partsTo at h
  obtain ⟨y, hy, rfl⟩ := List.mem_map.1 h
  exact (List.mem_zipIdx' hy).2 ▸ List.getElem_mem _
theorem findP_kid {N : Nat → Nd} {k len p : Nat} {nm : ByteArray} (h : findP (partsTo N k len) nm = some p) : p ∈ kidsTo N k len := by
  unfold findP at h
  obtain ⟨x, hx, rfl⟩ := Option.map_eq_some_iff.1 h
  exact parts_mem (List.mem_of_find?_eq_some hx)

theorem lst_drop (f : Nat → ByteArray) {m i : Nat} (h : i < m) : (lst f m).drop i = f i :: (lst f m).drop (i + 1) := by
  rw [List.drop_eq_getElem_cons (by rw [lst_length]; exact h)]
  congr 1
  simp [lst]

set_option maxRecDepth 100000 in
set_option maxHeartbeats 2000000 in
theorem nodeAt_any (b off c len : Nat) (N : Nat → Nd) (a : Option Addr) (ca m : Nat) (f : Nat → ByteArray) (w : World) (hlen : len ≤ 80) (h0 : 0 < len) (hpre : ∀ i, i < len → (N i).up < (i : Int)) (hb : b < w.heap.size) (hat : NodesAt w b off len N) (hm : m ≤ 2 ^ 20) (ha : ArgS w a m f) :
    Calls Tryd.prog 62 #[.slice (some ⟨b, off, none⟩) len c, .slice a m ca] w fun e w' => e = .returned (.tuple #[.int .i64 (((goN N len 0 (lst f m)).getD 0 : Nat) : Int), .bool (goN N len 0 (lst f m)).isSome]) ∧ Below w.heap.size w w' := by
  have HAT : Hid (NodesAt w b off len N) := hat
  have HPR : Hid (∀ i, i < len → (N i).up < (i : Int)) := hpre
  have HA : Hid (ArgS w a m f) := ha
  clear hat hpre ha
  go_enter Tryd.func62, Tryd.ntmps62
  go_wp2_with fail
  go_loopw [6, 13] (fun kv iv wr => ∃ (i k : Nat), i ≤ m ∧ iv = .int .i64 (i : Int) ∧ kv = .int .i64 (k : Int) ∧ k < len ∧ Hid (goN N len 0 (lst f m) = goN N len k ((lst f m).drop i)) ∧ Below w.heap.size w wr) (fun _ iv _ => m - (intOf iv).toNat)
  case atStart => exact ⟨0, 0, Nat.zero_le _, rfl, rfl, h0, rfl, Below.refl _ _⟩
  case round =>
    obtain ⟨i, k, hi, rfl, rfl, hk, HG, hnx⟩ := hrel
    by_cases hlt : i < m
    · rcases HA.out with h0' | ⟨ba, oa, rfl, hba, haa⟩
      · omega
      have a0 := (hnx.cell hba).trans (haa i hlt)
      have i0 : (0 : Int) ≤ (i : Int) := by omega
      have i1 : (i : Int) < (m : Int) := by omega
      have HS : Hid (goN N len 0 (lst f m) = (findP (partsTo N k len) (f i)).bind fun p => goN N len p ((lst f m).drop (i + 1))) := by
        show _ = _
        rw [HG.out, lst_drop f hlt, goN]
      have hz := hnx.size
      clear haa
      go_wp2_with fail
      refine ((callsIn_wide (n := 5)).1 (partNamed_in b off c len k N (f i) _ hlen hk (fun j hj hu => by have := HPR.out j hj; omega) (by omega) (HAT.out.below hnx hb))).mono ?_
      rintro e w1 ⟨rfl, hb1⟩
      have HB : Hid (Below w.heap.size w w1) := hnx.trans (hb1.mono hz)
      clear hb1
      cases hf : findP (partsTo N k len) (f i) with
      | none =>
        have HN : Hid (goN N len 0 (lst f m) = none) := by show _ = _; rw [HS.out, hf]; rfl
        dsimp only [Option.getD, Option.isSome]
        go_wp2
        exact bodyPost_ret (v := .tuple #[.int .i64 0, .bool false]) (by simp [results, Tryd.results62, go_sem]) rfl ⟨by rw [HN.out]; rfl, HB.out⟩
      | some p =>
        have HS2 : Hid (goN N len 0 (lst f m) = goN N len p ((lst f m).drop (i + 1))) := by show _ = _; rw [HS.out, hf]; rfl
        have hp : p < len := (kidsTo_mem (findP_kid hf)).2.1
        dsimp only [Option.getD, Option.isSome]
        go_wp2
        go_roundw
        case rel => exact ⟨i + 1, p, by omega, by go_num, rfl, hp, HS2, HB.out⟩
        case measure => simp [intOf]; omega
    · obtain rfl : i = m := by omega
      have HN : Hid (goN N len 0 (lst f i) = some k) := by
        show _ = _
        rw [HG.out, List.drop_of_length_le (by rw [lst_length]; exact Nat.le_refl _), goN]
      go_wp2
      exact bodyPost_ret (v := .tuple #[.int .i64 (k : Int), .bool true]) (by simp [results, Tryd.results62, go_sem]) rfl ⟨by rw [HN.out]; rfl, hnx⟩

end Go.Proofs.YthgjelbhhdomdaaDoor
