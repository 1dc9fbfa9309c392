/- The key of a node that holds no parts: the program. -/
import Derived.Test.YthgjelbhhdomdaaDoorKeyN
import Derived.Deep.RegionHeld3
import Derived.Deep.DeepFit
namespace Go.Proofs.YthgjelbhhdomdaaDoor
open Go.RowKit
set_option linter.unusedVariables false

/-- The table of kinds holds what its text lays. -/
def Marks (w : World) : Prop := 0 < w.heap.size ∧ ∀ k : Nat, 1 ≤ k → k ≤ 7 → w.cell? ⟨0, k, none⟩ = some (.string (strL [kindB k]))
theorem Marks.below {w w' : World} (h : Marks w) (hb : Below w.heap.size w w') : Marks w' := ⟨Nat.lt_of_lt_of_le h.1 hb.size, fun k h1 h2 => (hb.cell h.1).trans (h.2 k h1 h2)⟩

theorem cat_strL (ls : List (List UInt8)) : catL (ls.map strL) = ls.flatten := by
  induction ls with
  | nil => rfl
  | cons a l ih =>
    rw [List.map_cons, List.flatten_cons, ← ih]
    simp [catL, strL]

theorem joinKey2 (W : World) (H : Nat) (hH : W.heap.size = H) (a b : ByteArray) (hl : a.size + b.size ≤ 2 ^ 40) :
    Calls Tryd.prog 49 #[.slice (some ⟨H, 0, none⟩) 2 2] (W.alloc (.cells #[.string a, .string b] 9)) fun e w' => e = .returned (.string (strL (a.data.toList ++ b.data.toList))) ∧ Below W.heap.size W w' := by
  subst hH
  have hc : catL [a, b] = a.data.toList ++ b.data.toList := by simp [catL]
  have h2 : (catL [a, b]).length ≤ 2 ^ 40 := by
    rw [hc, List.length_append, Array.length_toList, Array.length_toList]
    exact hl
  refine (joinKey_any W.heap.size 0 2 [a, b] _ (fun j x h => ?_) (by simp) (by simp) (by simp) h2).mono ?_
  · rw [Nat.zero_add, World.cell?_alloc_new]
    match j, h with
    | 0, h => simp at h; subst h; rfl
    | 1, h => simp at h; subst h; rfl
  · rintro e w' ⟨rfl, hb⟩
    exact ⟨by rw [hc]; rfl, ((Below.refl _ _).alloc (Nat.le_refl _) _).trans (hb.mono (by simp))⟩
theorem joinKey3 (W : World) (H : Nat) (hH : W.heap.size = H) (a b c : ByteArray) (hl : a.size + b.size + c.size ≤ 2 ^ 40) :
    Calls Tryd.prog 49 #[.slice (some ⟨H, 0, none⟩) 3 3] (W.alloc (.cells #[.string a, .string b, .string c] 9)) fun e w' => e = .returned (.string (strL (a.data.toList ++ (b.data.toList ++ c.data.toList)))) ∧ Below W.heap.size W w' := by
  subst hH
  have hc : catL [a, b, c] = a.data.toList ++ (b.data.toList ++ c.data.toList) := by simp [catL]
  have h2 : (catL [a, b, c]).length ≤ 2 ^ 40 := by
    rw [hc, List.length_append, List.length_append, Array.length_toList, Array.length_toList, Array.length_toList]
    have : a.data.size + (b.data.size + c.data.size) = a.size + b.size + c.size := by show _ = a.data.size + b.data.size + c.data.size; omega
    omega
  refine (joinKey_any W.heap.size 0 3 [a, b, c] _ (fun j x h => ?_) (by simp) (by simp) (by simp) h2).mono ?_
  · rw [Nat.zero_add, World.cell?_alloc_new]
    match j, h with
    | 0, h => simp at h; subst h; rfl
    | 1, h => simp at h; subst h; rfl
    | 2, h => simp at h; subst h; rfl
  · rintro e w' ⟨rfl, hb⟩
    exact ⟨by rw [hc]; rfl, ((Below.refl _ _).alloc (Nat.le_refl _) _).trans (hb.mono (by simp))⟩

def KeySaid (N : Nat → Nd) (n k : Nat) : Prop := ∀ (b off c : Nat) (w : World), b < w.heap.size → NodesAt w b off n N → Marks w →
    Calls Tryd.prog 84 #[.slice (some ⟨b, off, none⟩) n c, .int .i64 k] w fun e w' => ∃ en : Nat, e = .returned (.tuple #[.string (strL (tree N n k).key), .int .i64 en]) ∧ IsEnd N n k en ∧ Below w.heap.size w w'

set_option maxRecDepth 100000 in
set_option maxHeartbeats 2000000 in
theorem keyFrom_leaf (N : Nat → Nd) (n k : Nat) (hn : n ≤ 80) (hk : k < n) (ht : TOK N n) (hl : ¬ ((N k).kind = 6 ∨ (N k).kind = 7)) : KeySaid N n k := by
  intro b off c w hb hat hmk
  obtain ⟨a0, a1, a2, a3, a4⟩ := hat k hk
  have i0 : (0 : Int) ≤ (k : Int) := by omega
  have i1 : (k : Int) < (n : Int) := by omega
  have kb := ht.kind k hk
  have nb := ht.num k hk
  have tb := ht.tb.text k hk
  obtain ⟨K, hK⟩ := Int.eq_ofNat_of_zero_le (show 0 ≤ (N k).kind by omega)
  have hK1 : 1 ≤ K := by omega
  have hK7 : K ≤ 7 := by omega
  have hm := hmk.2 K hK1 hK7
  have hg := hmk.1
  have HE : Hid (IsEnd N n k (k + 1)) := leaf_end ht.tb hk hl
  by_cases h4 : (N k).kind = 4
  · obtain rfl : K = 4 := by omega
    have HR : Hid ((tree N n k).key = kindB 4 :: num4 (N k).num) := key_num hk h4
    rw [h4] at a0
    clear h4 hl kb hK
    go_enter Tryd.func84, Tryd.ntmps84
    go_wp2_with fail
    refine (keyOfNumber_any _ _ nb.1 nb.2).mono ?_
    rintro e w1 ⟨rfl, hb1⟩
    have HB1 : Hid (Below w.heap.size w w1) := ((Below.refl _ _).alloc (Nat.le_refl _) _).trans (hb1.mono (by simp))
    clear hb1
    go_wp2_with fail
    refine (joinKey2 w1 _ rfl (strL [kindB 4]) (strL (num4 (N k).num)) (by rw [strL_size, strL_size]; simp [num4])).mono ?_
    rintro e w2 ⟨rfl, hb2⟩
    have HB2 : Hid (Below w.heap.size w w2) := HB1.out.trans (hb2.mono HB1.out.size)
    clear hb2
    go_wp2
    exact bodyPost_ret (v := .tuple #[.string (strL ((strL [kindB 4]).data.toList ++ (strL (num4 (N k).num)).data.toList)), .int .i64 ((k : Int) + 1)]) (by simp [results, Tryd.results84, go_sem]) rfl ⟨k + 1, by rw [HR.out]; simp [strL], HE.out, HB2.out⟩
  · by_cases h5 : (N k).kind = 5
    · obtain rfl : K = 5 := by omega
      have HR : Hid ((tree N n k).key = kindB 5 :: ((N k).text.data.toList ++ [1])) := key_text hk h5
      rw [h5] at a0
      clear h5 h4 hl kb hK
      go_enter Tryd.func84, Tryd.ntmps84
      go_wp2_with fail
      refine (joinKey3 (w.alloc _) (w.heap.size + 1) (World.size_alloc _ _) (strL [kindB 5]) (N k).text ⟨#[1]⟩ (by rw [strL_size]; show 1 + (N k).text.size + 1 ≤ _; omega)).mono ?_
      rintro e w2 ⟨rfl, hb2⟩
      have HB2 : Hid (Below w.heap.size w w2) := ((Below.refl _ _).alloc (Nat.le_refl _) _).trans (hb2.mono (by simp))
      clear hb2
      go_wp2
      exact bodyPost_ret (v := .tuple #[.string (strL ((strL [kindB 5]).data.toList ++ ((N k).text.data.toList ++ (⟨#[1]⟩ : ByteArray).data.toList))), .int .i64 ((k : Int) + 1)]) (by simp [results, Tryd.results84, go_sem]) rfl ⟨k + 1, by rw [HR.out]; simp [strL], HE.out, HB2.out⟩
    · have HR : Hid ((tree N n k).key = [kindB (N k).kind]) := key_word hk h4 h5 hl
      have e4 : ((N k).kind == 4) = false := by simpa using h4
      have e5 : ((N k).kind == 5) = false := by simpa using h5
      have e6 : ((N k).kind == 6) = false := by rw [beq_eq_false_iff_ne]; exact fun h => hl (.inl h)
      have e7 : ((N k).kind == 7) = false := by rw [beq_eq_false_iff_ne]; exact fun h => hl (.inr h)
      have k0 : (0 : Int) ≤ (K : Int) := by omega
      have k8 : (K : Int) < 8 := by omega
      rw [hK] at a0 HR e4 e5 e6 e7
      clear h5 h4 hl kb hK
      go_enter Tryd.func84, Tryd.ntmps84
      go_wp2_with fail
      exact bodyPost_ret (v := .tuple #[.string (strL [kindB (K : Int)]), .int .i64 ((k : Int) + 1)]) (by simp [results, Tryd.results84, go_sem]) rfl ⟨k + 1, by rw [HR.out]; simp, HE.out, (Below.refl _ _).alloc (Nat.le_refl _) _⟩

end Go.Proofs.YthgjelbhhdomdaaDoor
