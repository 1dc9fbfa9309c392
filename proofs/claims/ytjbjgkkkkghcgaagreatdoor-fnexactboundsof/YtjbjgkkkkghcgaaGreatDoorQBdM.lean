/- Numbers and texts: what isKeyed and l8Flat answer. What bounds a clause sets for a path. No program in this text. -/
import Derived.Test.YtjbjgkkkkghcgaaGreatDoorBase
import Derived.Test.YtjbjgkkkkghcgaaGreatDoorQPlN
import Derived.Test.YtjbjgkkkkghcgaaGreatDoorQKeyP
import Derived.Test.YtjbjgkkkkghcgaaGreatDoorQAbv
import Derived.Lib.MinMaxS
namespace Go.Proofs.YtjbjgkkkkghcgaaGreatDoor
open Go.RowKit
set_option linter.unusedVariables false

/-- A number or a text. -/
def FlatK (k : Int) : Prop := k = 4 ∨ k = 5

set_option maxHeartbeats 400000 in
theorem isKeyed_any (k : Int) (w : World) : Calls Tryz.prog 68 #[.int .i64 k] w fun e w' => ∃ q : Bool, e = .returned (.bool q) ∧ (q = true ↔ FlatK k) ∧ Below w.heap.size w w' := by
  by_cases h4 : k = 4
  · subst h4
    go_enter Tryz.func68, Tryz.ntmps68
    go_wp2
    go_ret
    exact ⟨true, rfl, by simp [FlatK], by go_grown⟩
  by_cases h5 : k = 5
  · subst h5
    go_enter Tryz.func68, Tryz.ntmps68
    go_wp2
    go_ret
    exact ⟨true, rfl, by simp [FlatK], by go_grown⟩
  have e4 : (k == 4) = false := by simpa using h4
  have e5 : (k == 5) = false := by simpa using h5
  go_enter Tryz.func68, Tryz.ntmps68
  go_wp2
  go_ret
  exact ⟨false, by first | rfl | simp [e4, e5], by simp [FlatK, h4, h5], by go_grown⟩

set_option maxHeartbeats 400000 in
theorem l8Flat_any (k n : Int) (t : ByteArray) (x y : Value) (w : World) : Calls Tryz.prog 26 #[.agg #[.int .i64 k, .int .i64 n, .string t, x, y]] w fun e w' => ∃ q : Bool, e = .returned (.bool q) ∧ (q = true ↔ FlatK k) ∧ Below w.heap.size w w' := by
  by_cases h4 : k = 4
  · subst h4
    go_enter Tryz.func26, Tryz.ntmps26
    go_wp2
    go_ret
    exact ⟨true, rfl, by simp [FlatK], by go_grown⟩
  by_cases h5 : k = 5
  · subst h5
    go_enter Tryz.func26, Tryz.ntmps26
    go_wp2
    go_ret
    exact ⟨true, rfl, by simp [FlatK], by go_grown⟩
  have e4 : (k == 4) = false := by simpa using h4
  have e5 : (k == 5) = false := by simpa using h5
  go_enter Tryz.func26, Tryz.ntmps26
  go_wp2
  go_ret
  exact ⟨false, by first | rfl | simp [e4, e5], by simp [FlatK, h4, h5], by go_grown⟩

end Go.Proofs.YtjbjgkkkkghcgaaGreatDoor
namespace Go.Proofs.YtjbjgkkkkghcgaaGreatDoor
open Go.RowKit
set_option linter.unusedVariables false

def noT : ByteArray := ⟨#[]⟩
theorem bytes_total : ∀ a b : List UInt8, Op.bytesLess a b = !(Op.bytesLess b a || b == a)
  | [], [] => by simp [Op.bytesLess]
  | [], _ :: _ => by simp [Op.bytesLess]
  | _ :: _, [] => by simp [Op.bytesLess]
  | x :: a, y :: b => by
    have ih := bytes_total a b
    unfold Op.bytesLess
    rcases Nat.lt_trichotomy x.toNat y.toNat with h | h | h
    · have h1 : x < y := h
      have h2 : ¬ y < x := fun h' => by have : y.toNat < x.toNat := h'; omega
      have h3 : ¬ y = x := fun e => by rw [e] at h; omega
      simp [h1, h2, h3]
    · have e : x = y := UInt8.toNat_inj.1 h
      subst e
      simp [ih]
    · have h1 : y < x := h
      have h2 : ¬ x < y := fun h' => by have : x.toNat < y.toNat := h'; omega
      have h4 : ¬ x = y := fun e => by rw [e] at h; omega
      simp [h1, h2, h4]
theorem text_eq {a b : ByteArray} (h : (a.toList == b.toList) = true) : a = b := by
  have h1 : a.toList = b.toList := by simpa using h
  rw [ByteArray.toList_eq, ByteArray.toList_eq] at h1
  exact ByteArray.ext (Array.toList_inj.1 h1)
/-- Go's '>' of texts, as the walk has it. -/
def gtB (x y : ByteArray) : Bool := !Op.bytesLess x.toList y.toList && !(x.toList == y.toList)
def ltB (x y : ByteArray) : Bool := Op.bytesLess x.toList y.toList
theorem maxS_is (x y : ByteArray) : Lib.maxS x y = if gtB y x = true then y else x := by
  unfold Lib.maxS gtB
  have h := bytes_total x.toList y.toList
  rw [← Bool.not_or, ← h]
  have e : Op.bytesLess x.toList y.toList = decide (x.data.toList < y.data.toList) := by rw [Proofs.bytesLess_eq, Lib.toList_data, Lib.toList_data]
  rw [e]
  by_cases hh : x.data.toList < y.data.toList <;> simp [hh]
theorem minS_is (x y : ByteArray) : Lib.minS x y = if ltB y x = true then y else x := by
  unfold Lib.minS ltB
  have h := bytes_total y.toList x.toList
  have e : Op.bytesLess x.toList y.toList = decide (x.data.toList < y.data.toList) := by rw [Proofs.bytesLess_eq, Lib.toList_data, Lib.toList_data]
  rw [h, e]
  by_cases hh : x.data.toList < y.data.toList
  · simp [hh]
  · by_cases h2 : x.data.toList = y.data.toList
    · simp [h2, Lib.toList_data]
    · have h3 : ¬ x.data = y.data := fun e => h2 (congrArg Array.toList e)
      simp [hh, h3, Lib.toList_data]
theorem gt_none (x : ByteArray) : (if gtB x noT = true then x else noT) = x := by
  unfold gtB
  have e : noT.toList = [] := by rw [ByteArray.toList_eq]; rfl
  rw [e]
  cases h : x.toList with
  | nil =>
    have : x = noT := text_eq (by rw [e, h]; rfl)
    rw [this]; simp
  | cons a l => simp [Op.bytesLess]

/-- Two bounds together. -/
def noB : ByteArray × ByteArray := (noT, noT)
def bothB (a b : ByteArray × ByteArray) : ByteArray × ByteArray := if a = noB then b else if b = noB then a else (Lib.maxS a.1 b.1, Lib.minS a.2 b.2)
/-- One step of the specification. -/
def stepB (acc a : ByteArray × ByteArray) : ByteArray × ByteArray := if a.2 = noT then acc else (if gtB a.1 acc.1 = true then a.1 else acc.1, if acc.2 = noT ∨ ltB a.2 acc.2 = true then a.2 else acc.2)
def FineB (a : ByteArray × ByteArray) : Prop := a.2 = noT → a.1 = noT
theorem noB_fine : FineB noB := fun _ => rfl
theorem fine_no {a : ByteArray × ByteArray} (h : FineB a) (h2 : a.2 = noT) : a = noB := Prod.ext (h h2) h2
theorem both_fine {a b : ByteArray × ByteArray} (ha : FineB a) (hb : FineB b) : FineB (bothB a b) := by
  unfold bothB
  by_cases h1 : a = noB
  · rw [if_pos h1]; exact hb
  · rw [if_neg h1]
    by_cases h2 : b = noB
    · rw [if_pos h2]; exact ha
    · rw [if_neg h2]
      intro h
      exfalso
      have h' : Lib.minS a.2 b.2 = noT := h
      rw [minS_is] at h'
      split at h'
      · exact h2 (fine_no hb h')
      · exact h1 (fine_no ha h')
theorem step_is {acc a : ByteArray × ByteArray} (hc : FineB acc) (ha : FineB a) : stepB acc a = bothB acc a := by
  unfold stepB bothB
  by_cases h1 : acc = noB
  · rw [if_pos h1]
    by_cases h2 : a.2 = noT
    · rw [if_pos h2, h1, fine_no ha h2]
    · rw [if_neg h2, h1]
      show (if gtB a.1 noT = true then a.1 else noT, if noT = noT ∨ ltB a.2 noT = true then a.2 else noT) = a
      rw [gt_none, if_pos (.inl rfl)]
  · rw [if_neg h1]
    have h1' : acc.2 ≠ noT := fun h => h1 (fine_no hc h)
    by_cases h2 : a.2 = noT
    · rw [if_pos h2, if_pos (fine_no ha h2)]
    · rw [if_neg h2, if_neg (show ¬ a = noB from fun h => h2 (by rw [h]; rfl)), maxS_is, minS_is]
      by_cases h3 : ltB a.2 acc.2 = true
      · rw [if_pos (show acc.2 = noT ∨ ltB a.2 acc.2 = true from .inr h3), if_pos h3]
      · rw [if_neg (show ¬ (acc.2 = noT ∨ ltB a.2 acc.2 = true) from fun h => h.elim h1' h3), if_neg h3]

/-- The key of a term's value, and the mark of its kind. -/
def keyB (x : Tm) : ByteArray := strL (tree x.N x.n 0).key
def markB (x : Tm) : ByteArray := strL [kindB (x.N 0).kind]
def leafB (p : ByteArray) (x : Tm) : ByteArray × ByteArray :=
  if x.path = p ∧ (x.kind = 1 ∨ x.kind = 2 ∨ x.kind = 3) ∧ ((x.N 0).kind = 4 ∨ (x.N 0).kind = 5) then
    if x.kind = 1 then (keyB x, abv (keyB x) (keyB x).size) else if x.kind = 2 then (markB x, keyB x) else (keyB x, abv (markB x) (markB x).size)
  else noB
mutual
/-- The bounds that a clause sets for a path. -/
def Cl.bd (p : ByteArray) : Cl → ByteArray × ByteArray
  | .leaf x => leafB p x
  | .all l => Cl.bds p l noB
  | .any _ => noB
  | .neg _ => noB
def Cl.bds (p : ByteArray) : List Cl → ByteArray × ByteArray → ByteArray × ByteArray
  | [], acc => acc
  | c :: l, acc => Cl.bds p l (bothB acc (Cl.bd p c))
end
theorem bds_snoc (p : ByteArray) (c : Cl) : ∀ (l : List Cl) (acc : ByteArray × ByteArray), Cl.bds p (l ++ [c]) acc = bothB (Cl.bds p l acc) (c.bd p)
  | [], acc => by simp [Cl.bds]
  | d :: l, acc => by rw [List.cons_append, Cl.bds, Cl.bds, bds_snoc p c l]

theorem abv_some {s : ByteArray} (h0 : 0 < s.size) (h1 : (s.get! 0).toNat ≠ 255) : ∀ k, 0 < k → k ≤ s.size → abv s k ≠ noT := by
  intro k
  have app : ∀ (t : ByteArray) (x : Int), t ++ strOfNums [x] ≠ noT := fun t x h => by
    have := congrArg ByteArray.size h
    rw [ByteArray.size_append] at this
    have e : (strOfNums [x]).size = 1 := rfl
    have e2 : noT.size = 0 := rfl
    omega
  induction k with
  | zero => intro h; omega
  | succ k ih =>
    intro _ hk
    rw [abv]
    split
    · rename_i h
      cases k with
      | zero => exact absurd h h1
      | succ k => exact ih (by omega) (by omega)
    · exact app _ _
theorem strL_head (x : UInt8) (l : List UInt8) : (strL (x :: l)).get! 0 = x := rfl
theorem strL_sizeB (l : List UInt8) : (strL l).size = l.length := rfl
theorem key_head {N : Nat → Nd} {n : Nat} (h0 : 0 < n) (h : (N 0).kind = 4 ∨ (N 0).kind = 5) : ∃ x l, (tree N n 0).key = x :: l ∧ x.toNat ≠ 255 ∧ x = kindB (N 0).kind := by
  rcases h with h | h
  · exact ⟨_, _, key_num h0 h, by decide, by rw [h]⟩
  · exact ⟨_, _, key_text h0 h, by decide, by rw [h]⟩
theorem leafB_fine (p : ByteArray) (x : Tm) (h0 : (x.kind = 1 ∨ x.kind = 2 ∨ x.kind = 3) → 0 < x.n) : FineB (leafB p x) := by
  unfold leafB
  split
  · rename_i h
    obtain ⟨_, hk1, hk⟩ := h
    obtain ⟨b, l, e, hb, e2⟩ := key_head (h0 hk1) hk
    have hK : keyB x = strL (b :: l) := by unfold keyB; rw [e]
    have hM : markB x = strL [b] := by unfold markB; rw [e2]
    rw [hK, hM]
    have a1 : abv (strL (b :: l)) (strL (b :: l)).size ≠ noT := abv_some (by rw [strL_sizeB]; simp) (by rw [strL_head]; exact hb) _ (by rw [strL_sizeB]; simp) (Nat.le_refl _)
    have a2 : abv (strL [b]) (strL [b]).size ≠ noT := abv_some (by rw [strL_sizeB]; simp) (by rw [strL_head]; exact hb) _ (by rw [strL_sizeB]; simp) (Nat.le_refl _)
    have a3 : strL (b :: l) ≠ noT := fun h => by
      have := congrArg ByteArray.size h
      rw [strL_sizeB] at this
      have e0 : noT.size = 0 := rfl
      rw [e0, List.length_cons] at this
      omega
    split
    · intro h; exact absurd h a1
    · split
      · intro h; exact absurd h a3
      · intro h; exact absurd h a2
  · exact noB_fine
theorem leaf_goodB {x : Tm} (h : LeafOK x) (hk : x.kind = 1 ∨ x.kind = 2 ∨ x.kind = 3) : GoodV x.N x.n := by
  have hf := h.1
  unfold FieldsOK at hf
  rcases hf with ⟨_, _, h, _⟩ | ⟨h, _⟩ | ⟨h, _, _⟩ | ⟨h6, _⟩ | ⟨h8, _⟩
  · exact h
  · omega
  · omega
  · omega
  · omega
theorem goodV_smallB {N : Nat → Nd} {n : Nat} (h : GoodV N n) : SmallN n N := by
  have hn := h.1.2.1
  refine ⟨by omega, fun i hi => ?_⟩
  obtain ⟨h1, h2, _⟩ := h.1.2.2 i hi
  have hp : ∀ t : ByteArray, plainB t = true → t.size ≤ 24 := fun t h => by
    unfold plainB at h
    simp only [Bool.and_eq_true, decide_eq_true_eq] at h
    exact h.1
  have e1 := (content_bounds h1).2.2
  have e2 := hp _ (name_plain h2)
  omega
/-- What stands alone has a small value; a number or a text has a value that is good, and a kind among the first three. -/
theorem leaf_smallB {x : Tm} (h : LeafOK x) : SmallN x.n x.N ∧ (GoodV x.N x.n ∧ FlatK (x.N 0).kind → x.kind = 1 ∨ x.kind = 2 ∨ x.kind = 3) := by
  obtain ⟨hf, hk⟩ := h
  unfold FieldsOK at hf
  rcases hf with ⟨h0, _, h, _⟩ | ⟨h, _, h2, _⟩ | ⟨_, _, h, _⟩ | ⟨h6, _⟩ | ⟨h8, _⟩
  · exact ⟨goodV_smallB h, fun _ => h0⟩
  · rw [h2]; exact ⟨⟨by decide, fun i hi => by omega⟩, fun hh => absurd hh.1.1.1 (by omega)⟩
  · exact ⟨goodV_smallB h.1, fun hh => by have := hh.2; unfold FlatK at this; omega⟩
  · omega
  · omega
theorem leafB_no {p : ByteArray} {x : Tm} (h : ¬ (x.path = p ∧ (x.kind = 1 ∨ x.kind = 2 ∨ x.kind = 3) ∧ FlatK (x.N 0).kind)) : leafB p x = noB := by unfold leafB; exact if_neg h
theorem leafB_yes {p : ByteArray} {x : Tm} (h : x.path = p ∧ (x.kind = 1 ∨ x.kind = 2 ∨ x.kind = 3) ∧ FlatK (x.N 0).kind) : leafB p x = if x.kind = 1 then (keyB x, abv (keyB x) (keyB x).size) else if x.kind = 2 then (markB x, keyB x) else (keyB x, abv (markB x) (markB x).size) := by unfold leafB; exact if_pos h
mutual
theorem Cl.bd_fine (p : ByteArray) : ∀ c : Cl, c.ok → FineB (c.bd p)
  | .leaf x, h => by
    rw [Cl.bd]
    exact leafB_fine p x fun hk => (leaf_goodB h hk).1.1
  | .all l, h => by rw [Cl.bd]; exact Cl.bds_fine p l noB h noB_fine
  | .any l, h => by rw [Cl.bd]; exact noB_fine
  | .neg c, h => by rw [Cl.bd]; exact noB_fine
theorem Cl.bds_fine (p : ByteArray) : ∀ (l : List Cl) (acc : ByteArray × ByteArray), Cl.oks l → FineB acc → FineB (Cl.bds p l acc)
  | [], acc, _, h => by rw [Cl.bds]; exact h
  | c :: l, acc, h, ha => by
    rw [Cl.bds]
    exact Cl.bds_fine p l _ h.2 (both_fine ha (Cl.bd_fine p c h.1))
end
theorem keyB_len {x : Tm} (h : 0 < x.n) (hf : FlatK (x.N 0).kind) (ht : (x.N 0).text.size ≤ 24) : (keyB x).size ≤ 40 := by
  unfold keyB
  rcases hf with h4 | h5
  · rw [key_num h h4, strL_sizeB]; simp [num4]
  · rw [key_text h h5, strL_sizeB]
    simp only [List.length_cons, List.length_append, List.length_nil]
    have : (x.N 0).text.data.toList.length = (x.N 0).text.size := rfl
    omega

end Go.Proofs.YtjbjgkkkkghcgaaGreatDoor
