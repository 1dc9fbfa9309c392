/- The key of a tree, and of nodes in a row. Plain mathematics. Texts put one behind the other: the program's joinKey, by the library's contract of strings.Join. The four bytes of a number: the program. The key of a node that holds no parts: the program. The keys of a node's parts, and so of every node: the program. -/
import Derived.Test.YtjbjgkkkkghcgaaGreatDoorTr
import Derived.Test.YtjbjgkkkkghcgaaGreatDoorRows
import Derived.Test.YtjbjgkkkkghcgaaGreatDoorLib
import Derived.WalkKit
import Derived.WalkSpells
import Derived.WalkLawsBesides
import Derived.Handy
import Derived.Test.YtjbjgkkkkghcgaaGreatDoorGoodOwn
import Derived.Deep.RegionHeld3
import Derived.Deep.DeepFit
import Derived.Test.YtjbjgkkkkghcgaaGreatDoorTreeW
namespace Go.Proofs.YtjbjgkkkkghcgaaGreatDoor

/-- The four bytes of a number, from the highest on. -/
def num4 (z : Int) : List UInt8 := let m := (z + 1000000000).toNat; [UInt8.ofNat (m / 16777216 % 256), UInt8.ofNat (m / 65536 % 256), UInt8.ofNat (m / 256 % 256), UInt8.ofNat (m % 256)]
def kindB (k : Int) : UInt8 := UInt8.ofNat k.toNat

mutual
def Tr.key : Tr → List UInt8
  | .mk k n t nm ks => kindB k :: (if k = 4 then num4 n else if k = 5 then t.data.toList ++ [1] else if k = 6 ∨ k = 7 then Tr.keys ks k nm 0 ++ [0] else [])
def Tr.keys : List Tr → Int → List ByteArray → Nat → List UInt8
  | [], _, _, _ => []
  | t :: ts, k, nm, i => (if k = 7 then 2 :: ((nm.getD i ByteArray.empty).data.toList ++ [1]) else []) ++ (t.key ++ Tr.keys ts k nm (i + 1))
end

theorem Tr.keys_append (l m : List Tr) : ∀ (k : Int) (nm : List ByteArray) (i : Nat), Tr.keys (l ++ m) k nm i = Tr.keys l k nm i ++ Tr.keys m k nm (i + l.length) := by
  induction l with
  | nil => intros; simp [Tr.keys]
  | cons a l ih =>
    intro k nm i
    rw [List.cons_append, Tr.keys, Tr.keys, ih, List.length_cons, List.append_assoc, List.append_assoc]
    congr 4
    omega
theorem Tr.keys_snoc (l : List Tr) (t : Tr) (k : Int) (nm : List ByteArray) (i : Nat) : Tr.keys (l ++ [t]) k nm i = Tr.keys l k nm i ++ ((if k = 7 then 2 :: ((nm.getD (i + l.length) ByteArray.empty).data.toList ++ [1]) else []) ++ t.key) := by
  rw [Tr.keys_append]
  simp [Tr.keys]

/-- The head of a part's key. -/
def keyHead (N : Nat → Nd) (k p : Nat) : List UInt8 := if (N k).kind = 7 then 2 :: ((N p).name.data.toList ++ [1]) else []
/-- The keys of k's parts ahead of q. -/
def keyTo (N : Nat → Nd) (n k q : Nat) : List UInt8 := (kidsTo N k q).flatMap fun p => keyHead N k p ++ (tree N n p).key

theorem keys_map (N : Nat → Nd) (n k : Nat) (nm : List ByteArray) : ∀ (l : List Nat) (i : Nat), (∀ j p, l[j]? = some p → (N k).kind = 7 → nm.getD (i + j) ByteArray.empty = (N p).name) →
    Tr.keys (l.map (tree N n)) (N k).kind nm i = l.flatMap fun p => keyHead N k p ++ (tree N n p).key := by
  intro l
  induction l with
  | nil => intros; simp [Tr.keys]
  | cons p l ih =>
    intro i h
    rw [List.map_cons, Tr.keys, List.flatMap_cons, ih (i + 1) (fun j q hq h7 => by
      have := h (j + 1) q (by simpa using hq) h7
      rwa [show i + (j + 1) = i + 1 + j by omega] at this), ← List.append_assoc]
    congr 2
    unfold keyHead
    split
    · next h7 => rw [show nm.getD i ByteArray.empty = (N p).name by have := h 0 p (by simp) h7; simpa using this]
    · rfl

theorem key_parts {N : Nat → Nd} {n k : Nat} (hk : k < n) (h : (N k).kind = 6 ∨ (N k).kind = 7) : (tree N n k).key = kindB (N k).kind :: (keyTo N n k n ++ [0]) := by
  rw [tree_eq hk, Tr.key, if_neg (by omega), if_neg (by omega), if_pos h]
  congr 2
  unfold keyTo
  refine keys_map N n k _ _ 0 fun j p hp h7 => ?_
  unfold kidNames
  rw [if_pos h7, Nat.zero_add, List.getD_eq_getElem?_getD, List.getElem?_map, hp]
  rfl
theorem key_num {N : Nat → Nd} {n k : Nat} (hk : k < n) (h : (N k).kind = 4) : (tree N n k).key = kindB 4 :: num4 (N k).num := by
  rw [tree_eq hk, Tr.key, if_pos h, h]
theorem key_text {N : Nat → Nd} {n k : Nat} (hk : k < n) (h : (N k).kind = 5) : (tree N n k).key = kindB 5 :: ((N k).text.data.toList ++ [1]) := by
  rw [tree_eq hk, Tr.key, if_neg (by omega), if_pos h, h]
theorem key_word {N : Nat → Nd} {n k : Nat} (hk : k < n) (h4 : (N k).kind ≠ 4) (h5 : (N k).kind ≠ 5) (h : ¬ ((N k).kind = 6 ∨ (N k).kind = 7)) : (tree N n k).key = [kindB (N k).kind] := by
  rw [tree_eq hk, Tr.key, if_neg h4, if_neg h5, if_neg h]

theorem keyTo_start {N : Nat → Nd} {n k : Nat} : keyTo N n k (k + 1) = [] := by
  have hz : ∀ j, j ≤ k + 1 → kidsTo N k j = [] := by
    intro j
    induction j with
    | zero => intro _; rfl
    | succ j ihj => intro hj; rw [kidsTo, if_neg (by omega), ihj (by omega)]
  unfold keyTo
  rw [hz _ (Nat.le_refl _)]
  rfl
theorem keyTo_next {N : Nat → Nd} {n k q e : Nat} (h : Pre N n) (hb : Bnd N n k q) (hq : q < n) (hu : (N q).up = k) (he : IsEnd N n q e) : keyTo N n k e = keyTo N n k q ++ (keyHead N k q ++ (tree N n q).key) := by
  unfold keyTo
  rw [(bnd_next h hb hq hu he).2]
  simp
theorem keyTo_stop {N : Nat → Nd} {n k q : Nat} (h : Pre N n) (hb : Bnd N n k q) (hs : q < n → (N q).up ≠ k) : keyTo N n k n = keyTo N n k q := by
  unfold keyTo
  rw [(bnd_stop h hb hs).2]

end Go.Proofs.YtjbjgkkkkghcgaaGreatDoor
namespace Go.Proofs.YtjbjgkkkkghcgaaGreatDoor
open Go.RowKit

theorem join_plain : ∀ ls : List (List UInt8), Lib.join ls [] = ls.flatten := by
  intro ls
  induction ls with
  | nil => rfl
  | cons a l ih =>
    cases l with
    | nil => simp [Lib.join]
    | cons b l => rw [List.flatten_cons, ← ih]; simp [Lib.join]

/-- All of them, one behind the other. -/
def catL (xs : List ByteArray) : List UInt8 := xs.flatMap fun x => x.data.toList

theorem join_cat (xs : List ByteArray) : Lib.join (xs.map (·.data.toList)) (⟨#[]⟩ : ByteArray).data.toList = catL xs := by
  show Lib.join _ [] = _
  rw [join_plain, catL, List.flatMap_def]

set_option maxHeartbeats 1000000 in
theorem joinKey_any (bk o c : Nat) (xs : List ByteArray) (w : World) (hcells : ∀ (j : Nat) x, xs[j]? = some x → w.cell? ⟨bk, o + j, none⟩ = some (.string x)) (hbk : bk < w.heap.size) (hN : xs.length ≤ 2 ^ 30) (hcap : xs.length ≤ c) (hlen : (catL xs).length ≤ 2 ^ 40) :
    Calls Tryz.prog 84 #[.slice (some ⟨bk, o, none⟩) xs.length c] w fun e w' => e = .returned (.string ⟨(catL xs).toArray⟩) ∧ Below w.heap.size w w' := by
  have HC : Hid (∀ (j : Nat) x, xs[j]? = some x → w.cell? ⟨bk, o + j, none⟩ = some (.string x)) := hcells
  have HL : Hid ((Lib.join (xs.map (·.data.toList)) (⟨#[]⟩ : ByteArray).data.toList).length ≤ 140737488355328) := by
    show _ ≤ _
    rw [join_cat]; omega
  have HJ : Hid (Lib.join (xs.map (·.data.toList)) (⟨#[]⟩ : ByteArray).data.toList = catL xs) := join_cat xs
  clear hcells hlen
  go_enter Tryz.func84, Tryz.ntmps84
  go_wp2_with fail
  refine (Tryz.strings_Join bk o c xs _ _ HC.out hbk (by omega) hcap HL.out).mono ?_
  rintro e w1 ⟨rfl, hb1⟩
  rw [HJ.out]
  have HB : Hid (Below w.heap.size w w1) := hb1
  clear hb1 HL HJ HC
  go_wp2
  go_ret
  exact ⟨rfl, HB.out⟩

set_option maxHeartbeats 1000000 in
theorem joinKey_none (a : Option Addr) (c : Nat) (w : World) :
    Calls Tryz.prog 84 #[.slice a 0 c] w fun e w' => e = .returned (.string ⟨#[]⟩) ∧ Below w.heap.size w w' := by
  go_enter Tryz.func84, Tryz.ntmps84
  go_wp2_with fail
  refine (Tryz.strings_Join_none a c _ _).mono ?_
  rintro e w1 ⟨rfl, rfl⟩
  go_wp2
  go_ret
  exact ⟨rfl, Below.refl _ _⟩

end Go.Proofs.YtjbjgkkkkghcgaaGreatDoor
namespace Go.Proofs.YtjbjgkkkkghcgaaGreatDoor
open Go.RowKit
set_option linter.unusedVariables false

theorem make_bytes (n : Nat) (hn : n ≤ 2 ^ 30) (W : World) : (Instr.makeSlice 73 (.int .i64 (n : Int)) (.int .i64 (n : Int))).run Tryz.prog W = .ok (.slice (some ⟨W.heap.size, 0, none⟩) n n) (W.alloc (.cells (madeCells #[.int .u8 0] n) 5)) := by
  obtain ⟨i0, hi, hz0, hz1, hz2⟩ := info_parts infoU8
  have h := run_make (P := Tryz.prog) W 73 5 i0 _ Tryz.underlying73 hi hz0 .i64 .i64 n n (by omega) (by omega) (by rw [hz2]; omega) (by omega)
  rw [hz1] at h
  simpa [Value.cells] using h

theorem make_four (W : World) : (Instr.makeSlice 73 (.int .i64 4) (.int .i64 4)).run Tryz.prog W = .ok (.slice (some ⟨W.heap.size, 0, none⟩) 4 4) (W.alloc (.cells #[.int .u8 0, .int .u8 0, .int .u8 0, .int .u8 0] 5)) := by
  have h := make_bytes 4 (by omega) W
  have e : madeCells #[Value.int .u8 0] 4 = #[.int .u8 0, .int .u8 0, .int .u8 0, .int .u8 0] := by
    apply Array.ext_getElem?
    intro i
    by_cases hi : i < 4
    · rw [made_one _ 4 i hi]
      match i, hi with
      | 0, _ => rfl
      | 1, _ => rfl
      | 2, _ => rfl
      | 3, _ => rfl
    · rw [Array.getElem?_eq_none (by simp [madeCells]; omega), Array.getElem?_eq_none (by simp; omega)]
  rw [e] at h
  exact h

/-- 'string(out)' of four bytes. -/
theorem conv_four (W : World) (a b c d : Int) : (convert 73 9 (.slice (some ⟨W.heap.size, 0, none⟩) 4 4)).run Tryz.prog (W.alloc (.cells #[.int .u8 a, .int .u8 b, .int .u8 c, .int .u8 d] 5)) = .ok (.string (strOfNums [a, b, c, d])) (W.alloc (.cells #[.int .u8 a, .int .u8 b, .int .u8 c, .int .u8 d] 5)) :=
  run_convert_bytes_arg _ 73 5 Tryz.underlying73 Tryz.underlying5 _ 0 4 4 [a, b, c, d] rfl (fun i hi => by
    match i, hi with
    | 0, _ => simp [World.cell?_alloc_new]
    | 1, _ => simp [World.cell?_alloc_new]
    | 2, _ => simp [World.cell?_alloc_new]
    | 3, _ => simp [World.cell?_alloc_new]) 9 Tryz.underlying9

theorem num_four (m : Nat) (hm : m ≤ 2000000000) : strOfNums [(m : Int) / 256 / 256 / 256, (m : Int) / 256 / 256 % 256, (m : Int) / 256 % 256, (m : Int) % 256] = strL (num4 ((m : Int) - 1000000000)) := by
  unfold strOfNums strL num4
  have e : ((m : Int) - 1000000000 + 1000000000).toNat = m := by omega
  have e0 : ((m : Int) / 256 / 256 / 256).toNat = m / 16777216 % 256 := by omega
  have e1 : ((m : Int) / 256 / 256 % 256).toNat = m / 65536 % 256 := by omega
  have e2 : ((m : Int) / 256 % 256).toNat = m / 256 % 256 := by omega
  have e3 : ((m : Int) % 256).toNat = m % 256 := by omega
  simp only [List.map_cons, List.map_nil, e, e0, e1, e2, e3]

set_option maxRecDepth 100000 in
set_option maxHeartbeats 2000000 in
theorem keyOfNumber_any (z : Int) (w : World) (h0 : -1000000000 ≤ z) (h1 : z ≤ 1000000000) :
    Calls Tryz.prog 85 #[.int .i64 z] w fun e w' => e = .returned (.string (strL (num4 z))) ∧ Below w.heap.size w w' := by
  obtain ⟨m, hm⟩ := Int.eq_ofNat_of_zero_le (show 0 ≤ z + 1000000000 by omega)
  have hmb : m ≤ 2000000000 := by omega
  obtain rfl : z = (m : Int) - 1000000000 := by omega
  have hmk := make_four w
  go_enter Tryz.func85, Tryz.ntmps85
  have hcv := conv_four w
  have HR : Hid (strOfNums [(m : Int) / 256 / 256 / 256, (m : Int) / 256 / 256 % 256, (m : Int) / 256 % 256, (m : Int) % 256] = strL (num4 ((m : Int) - 1000000000))) := num_four m hmb
  go_wp2_with fail
  go_rounds 5
  go_ret
  exact ⟨by rw [← HR.out]; rfl, by go_grown⟩

end Go.Proofs.YtjbjgkkkkghcgaaGreatDoor
namespace Go.Proofs.YtjbjgkkkkghcgaaGreatDoor
open Go.RowKit
set_option linter.unusedVariables false

/-- The table of kinds holds what its text lays. -/
def Marks (w : World) : Prop := 0 < w.heap.size ∧ ∀ k : Nat, 1 ≤ k → k ≤ 7 → w.cell? ⟨0, k, none⟩ = some (.string (strL [kindB k]))
theorem Marks.below {w w' : World} (h : Marks w) (hb : Below w.heap.size w w') : Marks w' := ⟨Nat.lt_of_lt_of_le h.1 hb.size, fun k h1 h2 => (hb.cell h.1).trans (h.2 k h1 h2)⟩

theorem cat_strL (ls : List (List UInt8)) : catL (ls.map strL) = ls.flatten := by
  induction ls with
  | nil => rfl
  | cons a l ih =>
    rw [List.map_cons, List.flatten_cons, ← ih]
    simp [catL, strL]

theorem joinKey2 (W : World) (H : Nat) (hH : W.heap.size = H) (a b : ByteArray) (hl : a.size + b.size ≤ 2 ^ 40) :
    Calls Tryz.prog 84 #[.slice (some ⟨H, 0, none⟩) 2 2] (W.alloc (.cells #[.string a, .string b] 9)) fun e w' => e = .returned (.string (strL (a.data.toList ++ b.data.toList))) ∧ Below W.heap.size W w' := by
  subst hH
  have hc : catL [a, b] = a.data.toList ++ b.data.toList := by simp [catL]
  have h2 : (catL [a, b]).length ≤ 2 ^ 40 := by
    rw [hc, List.length_append, Array.length_toList, Array.length_toList]
    exact hl
  refine (joinKey_any W.heap.size 0 2 [a, b] _ (fun j x h => ?_) (by simp) (by simp) (by simp) h2).mono ?_
  · rw [Nat.zero_add, World.cell?_alloc_new]
    match j, h with
    | 0, h => simp at h; subst h; rfl
    | 1, h => simp at h; subst h; rfl
  · rintro e w' ⟨rfl, hb⟩
    exact ⟨by rw [hc]; rfl, ((Below.refl _ _).alloc (Nat.le_refl _) _).trans (hb.mono (by simp))⟩
theorem joinKey3 (W : World) (H : Nat) (hH : W.heap.size = H) (a b c : ByteArray) (hl : a.size + b.size + c.size ≤ 2 ^ 40) :
    Calls Tryz.prog 84 #[.slice (some ⟨H, 0, none⟩) 3 3] (W.alloc (.cells #[.string a, .string b, .string c] 9)) fun e w' => e = .returned (.string (strL (a.data.toList ++ (b.data.toList ++ c.data.toList)))) ∧ Below W.heap.size W w' := by
  subst hH
  have hc : catL [a, b, c] = a.data.toList ++ (b.data.toList ++ c.data.toList) := by simp [catL]
  have h2 : (catL [a, b, c]).length ≤ 2 ^ 40 := by
    rw [hc, List.length_append, List.length_append, Array.length_toList, Array.length_toList, Array.length_toList]
    have : a.data.size + (b.data.size + c.data.size) = a.size + b.size + c.size := by show _ = a.data.size + b.data.size + c.data.size; omega
    omega
  refine (joinKey_any W.heap.size 0 3 [a, b, c] _ (fun j x h => ?_) (by simp) (by simp) (by simp) h2).mono ?_
  · rw [Nat.zero_add, World.cell?_alloc_new]
    match j, h with
    | 0, h => simp at h; subst h; rfl
    | 1, h => simp at h; subst h; rfl
    | 2, h => simp at h; subst h; rfl
  · rintro e w' ⟨rfl, hb⟩
    exact ⟨by rw [hc]; rfl, ((Below.refl _ _).alloc (Nat.le_refl _) _).trans (hb.mono (by simp))⟩

def KeySaid (N : Nat → Nd) (n k : Nat) : Prop := ∀ (b off c : Nat) (w : World), b < w.heap.size → NodesAt w b off n N → Marks w →
    Calls Tryz.prog 69 #[.slice (some ⟨b, off, none⟩) n c, .int .i64 k] w fun e w' => ∃ en : Nat, e = .returned (.tuple #[.string (strL (tree N n k).key), .int .i64 en]) ∧ IsEnd N n k en ∧ Below w.heap.size w w'

set_option maxRecDepth 100000 in
set_option maxHeartbeats 2000000 in
theorem keyFrom_leaf (N : Nat → Nd) (n k : Nat) (hn : n ≤ 80) (hk : k < n) (ht : TOK N n) (hl : ¬ ((N k).kind = 6 ∨ (N k).kind = 7)) : KeySaid N n k := by
  intro b off c w hb hat hmk
  obtain ⟨a0, a1, a2, a3, a4⟩ := hat k hk
  have i0 : (0 : Int) ≤ (k : Int) := by omega
  have i1 : (k : Int) < (n : Int) := by omega
  have kb := ht.kind k hk
  have nb := ht.num k hk
  have tb := ht.tb.text k hk
  obtain ⟨K, hK⟩ := Int.eq_ofNat_of_zero_le (show 0 ≤ (N k).kind by omega)
  have hK1 : 1 ≤ K := by omega
  have hK7 : K ≤ 7 := by omega
  have hm := hmk.2 K hK1 hK7
  have hg := hmk.1
  have HE : Hid (IsEnd N n k (k + 1)) := leaf_end ht.tb hk hl
  by_cases h4 : (N k).kind = 4
  · obtain rfl : K = 4 := by omega
    have HR : Hid ((tree N n k).key = kindB 4 :: num4 (N k).num) := key_num hk h4
    rw [h4] at a0
    clear h4 hl kb hK
    go_enter Tryz.func69, Tryz.ntmps69
    go_wp2_with fail
    refine (keyOfNumber_any _ _ nb.1 nb.2).mono ?_
    rintro e w1 ⟨rfl, hb1⟩
    have HB1 : Hid (Below w.heap.size w w1) := ((Below.refl _ _).alloc (Nat.le_refl _) _).trans (hb1.mono (by simp))
    clear hb1
    go_wp2_with fail
    refine (joinKey2 w1 _ rfl (strL [kindB 4]) (strL (num4 (N k).num)) (by rw [strL_size, strL_size]; simp [num4])).mono ?_
    rintro e w2 ⟨rfl, hb2⟩
    have HB2 : Hid (Below w.heap.size w w2) := HB1.out.trans (hb2.mono HB1.out.size)
    clear hb2
    go_wp2
    exact bodyPost_ret (v := .tuple #[.string (strL ((strL [kindB 4]).data.toList ++ (strL (num4 (N k).num)).data.toList)), .int .i64 ((k : Int) + 1)]) (by simp [results, Tryz.results69, go_sem]) rfl ⟨k + 1, by rw [HR.out]; simp [strL], HE.out, HB2.out⟩
  · by_cases h5 : (N k).kind = 5
    · obtain rfl : K = 5 := by omega
      have HR : Hid ((tree N n k).key = kindB 5 :: ((N k).text.data.toList ++ [1])) := key_text hk h5
      rw [h5] at a0
      clear h5 h4 hl kb hK
      go_enter Tryz.func69, Tryz.ntmps69
      go_wp2_with fail
      refine (joinKey3 (w.alloc _) (w.heap.size + 1) (World.size_alloc _ _) (strL [kindB 5]) (N k).text ⟨#[1]⟩ (by rw [strL_size]; show 1 + (N k).text.size + 1 ≤ _; omega)).mono ?_
      rintro e w2 ⟨rfl, hb2⟩
      have HB2 : Hid (Below w.heap.size w w2) := ((Below.refl _ _).alloc (Nat.le_refl _) _).trans (hb2.mono (by simp))
      clear hb2
      go_wp2
      exact bodyPost_ret (v := .tuple #[.string (strL ((strL [kindB 5]).data.toList ++ ((N k).text.data.toList ++ (⟨#[1]⟩ : ByteArray).data.toList))), .int .i64 ((k : Int) + 1)]) (by simp [results, Tryz.results69, go_sem]) rfl ⟨k + 1, by rw [HR.out]; simp [strL], HE.out, HB2.out⟩
    · have HR : Hid ((tree N n k).key = [kindB (N k).kind]) := key_word hk h4 h5 hl
      have e4 : ((N k).kind == 4) = false := by simpa using h4
      have e5 : ((N k).kind == 5) = false := by simpa using h5
      have e6 : ((N k).kind == 6) = false := by rw [beq_eq_false_iff_ne]; exact fun h => hl (.inl h)
      have e7 : ((N k).kind == 7) = false := by rw [beq_eq_false_iff_ne]; exact fun h => hl (.inr h)
      have k0 : (0 : Int) ≤ (K : Int) := by omega
      have k8 : (K : Int) < 8 := by omega
      rw [hK] at a0 HR e4 e5 e6 e7
      clear h5 h4 hl kb hK
      go_enter Tryz.func69, Tryz.ntmps69
      go_wp2_with fail
      exact bodyPost_ret (v := .tuple #[.string (strL [kindB (K : Int)]), .int .i64 ((k : Int) + 1)]) (by simp [results, Tryz.results69, go_sem]) rfl ⟨k + 1, by rw [HR.out]; simp, HE.out, (Below.refl _ _).alloc (Nat.le_refl _) _⟩

end Go.Proofs.YtjbjgkkkkghcgaaGreatDoor
namespace Go.Proofs.YtjbjgkkkkghcgaaGreatDoor
open Go.RowKit
set_option linter.unusedVariables false

theorem key_len {N : Nat → Nd} {n : Nat} (h : TOK N n) : ∀ d k, n - k = d → k < n → ∀ e, IsEnd N n k e → (tree N n k).key.length + 30 ≤ 60 * (e - k) := by
  intro d
  induction d using Nat.strongRecOn with
  | _ d ih =>
    intro k hd hk e he
    have he1 := he.1
    by_cases h67 : (N k).kind = 6 ∨ (N k).kind = 7
    · have hC := parts_ind h.tb.pre hk (fun q => k + 1 ≤ q ∧ (keyTo N n k q).length ≤ 60 * (q - (k + 1))) ⟨Nat.le_refl _, by rw [keyTo_start]; simp⟩ (fun q e' hb hq hu he' hkid hc => by
        have h1 := ih (n - q) (by have := hb.1; omega) q rfl hq e' he'
        have h2 := he'.1
        refine ⟨by have := hb.1; omega, ?_⟩
        rw [keyTo_next h.tb.pre hb hq hu he', List.length_append, List.length_append]
        have h3 : (keyHead N k q).length ≤ 26 := by
          unfold keyHead
          split
          · have := h.tb.name q hq
            have h4 : (N q).name.data.toList.length = (N q).name.size := by rw [Array.length_toList]; rfl
            rw [List.length_cons, List.length_append, h4]
            simp
            omega
          · simp
        omega) e he
      rw [key_parts hk h67, List.length_cons, List.length_append]
      have h5 : keyTo N n k n = keyTo N n k e := by unfold keyTo; rw [hC.1]
      rw [h5]
      have := hC.2
      simp
      omega
    · by_cases h4 : (N k).kind = 4
      · rw [key_num hk h4]
        simp [num4]
        omega
      · by_cases h5 : (N k).kind = 5
        · rw [key_text hk h5, List.length_cons, List.length_append]
          have := h.tb.text k hk
          have h6 : (N k).text.data.toList.length = (N k).text.size := by rw [Array.length_toList]; rfl
          rw [h6]
          simp
          omega
        · rw [key_word hk h4 h5 h67]
          simp
          omega

/-- The slice value v owns the texts xs, in blocks from B on. -/
def OwnsT (w : World) (B : Nat) (v : Value) (xs : List ByteArray) : Prop := w.ownsRow B 9 1 v xs.length (xs.map .string)
theorem OwnsT.form {w : World} {B : Nat} {v : Value} {xs : List ByteArray} (h : OwnsT w B v xs) : ∃ a c, v = .slice a xs.length c := by
  rcases h.2 with ⟨rfl, e⟩ | ⟨g, cap, cur, rfl, _⟩
  · exact ⟨none, 0, by rw [e]⟩
  · exact ⟨_, _, rfl⟩
theorem catL_append (xs ys : List ByteArray) : catL (xs ++ ys) = catL xs ++ catL ys := by simp [catL]

/-- All pieces together. -/
theorem joinKey_own {w : World} {B : Nat} {v : Value} {xs : List ByteArray} (h : OwnsT w B v xs) (hl : xs.length ≤ 2 ^ 20) (hc : (catL xs).length ≤ 2 ^ 40) :
    Calls Tryz.prog 84 #[v] w fun e w' => e = .returned (.string (strL (catL xs))) ∧ Below w.heap.size w w' := by
  have hcells := @World.ownsRow.cells _ _ _ _ _ _ _ h
  have hlt := @World.ownsRow.lt _ _ _ _ _ _ _ h
  rcases h.2 with ⟨rfl, e⟩ | ⟨g, cap, cur, rfl, hg, hh, hcap, _⟩
  · obtain rfl := List.eq_nil_of_length_eq_zero e
    exact joinKey_none none 0 w
  · refine joinKey_any g 0 cap xs w (fun j x hx => ?_) (hlt g rfl).2 (by omega) hcap hc
    have := hcells (g := g) rfl j (.string x) (by rw [List.getElem?_map, hx]; rfl)
    rwa [show ((⟨g, 0, none⟩ : Addr).add j) = ⟨g, 0 + j, none⟩ by unfold Addr.add; split <;> simp_all] at this

theorem three_news (W : World) (a b c : ByteArray) (T : TypeId) : ∀ (j : Nat) (u : Value), [Value.string a, .string b, .string c][j]? = some u → (W.alloc (.cells #[.string a, .string b, .string c] T)).cell? ((⟨W.heap.size, 0, none⟩ : Addr).add j) = some u := by
  intro j u h
  have e : (⟨W.heap.size, 0, none⟩ : Addr).add j = ⟨W.heap.size, j, none⟩ := by unfold Addr.add; split <;> simp_all
  rw [e, World.cell?_alloc_new]
  simpa using h
theorem three_one (a b c : ByteArray) : ∀ u : Value, u ∈ [Value.string a, .string b, .string c] → u.oneCell' = true := by
  intro u hu
  simp at hu
  rcases hu with rfl | rfl | rfl <;> rfl

def PartsK (N : Nat → Nd) (n k : Nat) : Prop := ∀ (b off c : Nat) (w : World), b < w.heap.size → NodesAt w b off n N → Marks w →
    Calls Tryz.prog 86 #[.slice (some ⟨b, off, none⟩) n c, .int .i64 k] w fun e w' => ∃ en : Nat, e = .returned (.tuple #[.string (strL (keyTo N n k n)), .int .i64 en]) ∧ IsEnd N n k en ∧ Below w.heap.size w w'

theorem keyTo_len {N : Nat → Nd} {n k q : Nat} (h : TOK N n) (hn : n ≤ 80) (hk : k < n) (h67 : (N k).kind = 6 ∨ (N k).kind = 7) (hb : Bnd N n k q) : (keyTo N n k q).length ≤ 2 ^ 20 := by
  obtain ⟨e, he⟩ := end_of (N := N) hk
  have h1 := key_len h (n - k) k rfl hk e he
  rw [key_parts hk h67, List.length_cons, List.length_append] at h1
  have h2 : ∀ d, q + d ≤ n → (keyTo N n k q).length ≤ (keyTo N n k (q + d)).length := by
    intro d
    induction d with
    | zero => intro _; exact Nat.le_refl _
    | succ d ihd =>
      intro hq
      refine Nat.le_trans (ihd (by omega)) ?_
      unfold keyTo
      rw [show q + (d + 1) = (q + d) + 1 by omega, kidsTo]
      split
      · rw [List.flatMap_append, List.length_append]; omega
      · exact Nat.le_refl _
  have h3 := h2 (n - q) (by have := hb.2.1; omega)
  rw [show q + (n - q) = n by have := hb.2.1; omega] at h3
  have := he.2.1
  omega

set_option maxRecDepth 100000 in
set_option maxHeartbeats 4000000 in
theorem keyOfParts_any (N : Nat → Nd) (n k : Nat) (hn : n ≤ 80) (hk : k < n) (ht : TOK N n) (h67 : (N k).kind = 6 ∨ (N k).kind = 7) (ih : ∀ p, k < p → p < n → KeySaid N n p) : PartsK N n k := by
  intro b off c w hb hat hmk
  have HAT : Hid (NodesAt w b off n N) := hat
  have HMK : Hid (Marks w) := hmk
  have HIH : Hid (∀ p, k < p → p < n → KeySaid N n p) := ih
  have HT : Hid (TOK N n) := ht
  have H67 : Hid ((N k).kind = 6 ∨ (N k).kind = 7) := h67
  have HKL : Hid (∀ q, Bnd N n k q → (keyTo N n k q).length ≤ 2 ^ 20) := fun q hq => keyTo_len ht hn hk h67 hq
  obtain ⟨iS, hi, hz0, hz1, hz2⟩ := info_parts infoText
  have HIS : Hid (Tryz.prog.info? 9 = some iS ∧ iS.zero = some (.string ⟨#[]⟩) ∧ iS.size = 1 ∧ iS.bytes = 16) := ⟨hi, hz0, hz1, hz2⟩
  have i0 : (0 : Int) ≤ (k : Int) := by omega
  have i1 : (k : Int) < (n : Int) := by omega
  clear hat hmk ih hi hz0 hz1 hz2 h67 ht
  go_enter Tryz.func86, Tryz.ntmps86
  go_wp2_with fail
  go_loopw [6, 7] (fun v i wr => ∃ (q : Nat) (xs : List ByteArray) (am : Option Addr) (dm : Nat), i = .int .i64 q ∧ q ≤ n ∧ v = .slice am xs.length dm ∧ xs.length ≤ 4 * q ∧ Hid (Bnd N n k q) ∧ Hid (catL xs = keyTo N n k q) ∧ Hid (OwnsT wr w.heap.size (.slice am xs.length dm) xs) ∧ Below w.heap.size w wr) (fun _ i _ => n - (intOf i).toNat)
  case atStart => exact ⟨k + 1, [], none, 0, by go_num, by omega, rfl, by simp, bnd_start HT.out.tb.pre hk, by show _ = _; rw [keyTo_start]; rfl, World.ownsRow_nil _ _ _ _, Below.refl _ _⟩
  case round =>
    obtain ⟨q, xs, am, dm, rfl, hqn, rfl, hxl, HBN, HX, HO, hnx⟩ := hrel
    have hz := hnx.size
    have hkq : k < q := HBN.out.1
    have d0 := (HAT.out.below hnx hb k hk).1
    have j0 : (0 : Int) ≤ (q : Int) := by omega
    by_cases hlt : q < n
    · obtain ⟨g0, g1, g2, g3, g4⟩ := HAT.out.below hnx hb q hlt
      have j1 : (q : Int) < (n : Int) := by omega
      by_cases hu : (N q).up = k
      · have hub : ((N q).up == (k : Int)) = true := by simpa using hu
        have HU : Hid ((N q).up = k) := hu
        have HK9 : Hid (KeySaid N n q) := HIH.out q hkq hlt
        clear hu g0 g1 g2
        rcases H67.out with h6 | h7
        · have e7 : ((N k).kind == 7) = false := by rw [h6]; rfl
          have HH : Hid (keyHead N k q = []) := by show _ = _; unfold keyHead; rw [if_neg (by omega)]
          clear h6
          go_wp2_with fail
          refine (HK9.out b off c _ (by omega) (HAT.out.below hnx hb) (HMK.out.below hnx)).mono ?_
          rintro e w2 ⟨en, rfl, he2, hb2⟩
          have HN2 : Hid (keyTo N n k en = keyTo N n k q ++ (keyHead N k q ++ (tree N n q).key)) := keyTo_next HT.out.tb.pre HBN.out hlt HU.out he2
          have HB2n : Hid (Bnd N n k en) := (bnd_next HT.out.tb.pre HBN.out hlt HU.out he2).1
          have hen : q < en ∧ en ≤ n := ⟨he2.1, he2.2.1⟩
          have HB2 : Hid (Below w.heap.size w w2) := hnx.trans (hb2.mono hz)
          have HO2 : Hid (OwnsT w2 w.heap.size (.slice am xs.length dm) xs) := row_block HO.out fun b' _ hl' _ => hb2.block b' hl'
          have zz2 := HB2.out.size
          clear he2 hb2
          go_wp2_with (first | (at_builtin; refine wpList_append_own _ rfl _ _ 35 rfl w.heap.size 9 iS _ 1 16 Tryz.underlying35 HIS.out.1 HIS.out.2.1 HIS.out.2.2.1 HIS.out.2.2.2 rfl (by decide) _ _ _ rfl (World.ownsRow.alloc HO2.out _) ⟨w2.heap.size, 0, none⟩ 1 1 [.string (strL (tree N n q).key)] rfl rfl ?c1 ?c2 ?c3 ?c4 ?c5 ?_))
          case c1 => exact one_news _ _ _
          case c2 => intro u hu; simp at hu; subst hu; rfl
          case c3 => unfold maxLen; omega
          case c4 => omega
          case c5 => simp; omega
          intro v3 w3 hown3 hgrow _
          have HB3 : Hid (Below w.heap.size w w3) := grow_below HO2.out _ HB2.out (by omega) hgrow
          have ho3 : OwnsT w3 w.heap.size v3 (xs ++ [strL (tree N n q).key]) := by
            unfold OwnsT
            rw [List.map_append, List.length_append]
            exact hown3
          obtain ⟨a3, d3, rfl⟩ := ho3.form
          have HO3 : Hid (OwnsT w3 w.heap.size (.slice a3 (xs ++ [strL (tree N n q).key]).length d3) (xs ++ [strL (tree N n q).key])) := ho3
          have HX3 : Hid (catL (xs ++ [strL (tree N n q).key]) = keyTo N n k en) := by
            show _ = _
            rw [catL_append, HX.out, HN2.out, HH.out]
            simp [catL, strL]
          clear hown3 hgrow ho3
          go_wp2_with fail
          go_roundw
          case rel => exact ⟨en, _, a3, d3, rfl, hen.2, rfl, by rw [List.length_append]; simp; omega, HB2n, HX3, HO3, HB3.out⟩
          case measure => simp [intOf]; omega
        · have e7 : ((N k).kind == 7) = true := by rw [h7]; rfl
          have HH : Hid (keyHead N k q = 2 :: ((N q).name.data.toList ++ [1])) := by show _ = _; unfold keyHead; rw [if_pos h7]
          rw [h7] at d0
          clear h7
          go_wp2_with (first | (at_builtin; refine wpList_append_own _ rfl _ _ 35 rfl w.heap.size 9 iS _ 1 16 Tryz.underlying35 HIS.out.1 HIS.out.2.1 HIS.out.2.2.1 HIS.out.2.2.2 rfl (by decide) _ _ _ rfl (World.ownsRow.alloc HO.out _) ⟨wr.heap.size, 0, none⟩ 3 3 [.string ⟨#[2]⟩, .string (N q).name, .string ⟨#[1]⟩] rfl rfl ?c1 ?c2 ?c3 ?c4 ?c5 ?_))
          case c1 => exact three_news _ _ _ _ _
          case c2 => exact three_one _ _ _
          case c3 => unfold maxLen; omega
          case c4 => omega
          case c5 => simp; omega
          intro v1 w1 hown1 hgrow1 _
          have HB1 : Hid (Below w.heap.size w w1) := grow_below HO.out _ hnx (by omega) hgrow1
          have zz1 := HB1.out.size
          obtain ⟨ys, hys⟩ : ∃ ys : List ByteArray, ys = xs ++ [⟨#[2]⟩, (N q).name, ⟨#[1]⟩] := ⟨_, rfl⟩
          have hyl : ys.length = xs.length + 3 := by rw [hys]; simp
          have ho1 : OwnsT w1 w.heap.size v1 ys := by
            unfold OwnsT
            rw [hyl, hys, List.map_append]
            exact hown1
          obtain ⟨a1, d1, rfl⟩ := ho1.form
          have HO1 : Hid (OwnsT w1 w.heap.size (.slice a1 ys.length d1) ys) := ho1
          have HY : Hid (catL ys = keyTo N n k q ++ keyHead N k q) := by
            show _ = _
            rw [hys, catL_append, HX.out, HH.out]
            simp [catL]
          have hyb : ys.length ≤ xs.length + 3 := by omega
          clear hown1 hgrow1 ho1 hys hyl
          go_wp2_with fail
          refine (HK9.out b off c _ (by omega) (HAT.out.below HB1.out hb) (HMK.out.below HB1.out)).mono ?_
          rintro e w2 ⟨en, rfl, he2, hb2⟩
          have HN2 : Hid (keyTo N n k en = keyTo N n k q ++ (keyHead N k q ++ (tree N n q).key)) := keyTo_next HT.out.tb.pre HBN.out hlt HU.out he2
          have HB2n : Hid (Bnd N n k en) := (bnd_next HT.out.tb.pre HBN.out hlt HU.out he2).1
          have hen : q < en ∧ en ≤ n := ⟨he2.1, he2.2.1⟩
          have HB2 : Hid (Below w.heap.size w w2) := HB1.out.trans (hb2.mono HB1.out.size)
          have HO2 : Hid (OwnsT w2 w.heap.size (.slice a1 ys.length d1) ys) := row_block HO1.out fun b' _ hl' _ => hb2.block b' hl'
          have zz2 := HB2.out.size
          clear he2 hb2
          go_wp2_with (first | (at_builtin; refine wpList_append_own _ rfl _ _ 35 rfl w.heap.size 9 iS _ 1 16 Tryz.underlying35 HIS.out.1 HIS.out.2.1 HIS.out.2.2.1 HIS.out.2.2.2 rfl (by decide) _ _ _ rfl (World.ownsRow.alloc HO2.out _) ⟨w2.heap.size, 0, none⟩ 1 1 [.string (strL (tree N n q).key)] rfl rfl ?c1 ?c2 ?c3 ?c4 ?c5 ?_))
          case c1 => exact one_news _ _ _
          case c2 => intro u hu; simp at hu; subst hu; rfl
          case c3 => unfold maxLen; omega
          case c4 => omega
          case c5 => simp; omega
          intro v3 w3 hown3 hgrow _
          have HB3 : Hid (Below w.heap.size w w3) := grow_below HO2.out _ HB2.out (by omega) hgrow
          have ho3 : OwnsT w3 w.heap.size v3 (ys ++ [strL (tree N n q).key]) := by
            unfold OwnsT
            rw [List.map_append, List.length_append]
            exact hown3
          obtain ⟨a3, d3, rfl⟩ := ho3.form
          have HO3 : Hid (OwnsT w3 w.heap.size (.slice a3 (ys ++ [strL (tree N n q).key]).length d3) (ys ++ [strL (tree N n q).key])) := ho3
          have HX3 : Hid (catL (ys ++ [strL (tree N n q).key]) = keyTo N n k en) := by
            show _ = _
            rw [catL_append, HY.out, HN2.out, List.append_assoc]
            simp [catL, strL]
          clear hown3 hgrow ho3
          go_wp2_with fail
          go_roundw
          case rel => exact ⟨en, _, a3, d3, rfl, hen.2, rfl, by rw [List.length_append]; simp; omega, HB2n, HX3, HO3, HB3.out⟩
          case measure => simp [intOf]; omega
      · have hub : ((N q).up == (k : Int)) = false := by simpa using hu
        have HEND : Hid (IsEnd N n k q ∧ keyTo N n k n = keyTo N n k q) := ⟨(bnd_stop HT.out.tb.pre HBN.out (fun _ => hu)).1, keyTo_stop HT.out.tb.pre HBN.out (fun _ => hu)⟩
        clear hu g0 g1 g2 g3
        go_wp2_with fail
        refine (joinKey_own HO.out (by omega) (by rw [HX.out]; have := HKL.out q HBN.out; omega)).mono ?_
        rintro e w2 ⟨rfl, hb2⟩
        have HB2 : Hid (Below w.heap.size w w2) := hnx.trans (hb2.mono hz)
        clear hb2
        go_wp2_with fail
        exact bodyPost_ret (v := .tuple #[.string (strL (catL xs)), .int .i64 (q : Int)]) (by simp [results, Tryz.results86, go_sem]) rfl ⟨q, by rw [HX.out, HEND.out.2], HEND.out.1, HB2.out⟩
    · have HEND : Hid (IsEnd N n k q ∧ keyTo N n k n = keyTo N n k q) := ⟨(bnd_stop HT.out.tb.pre HBN.out (fun h => absurd h hlt)).1, keyTo_stop HT.out.tb.pre HBN.out (fun h => absurd h hlt)⟩
      have hlt' : ¬ (q : Int) < (n : Int) := by omega
      go_wp2_with fail
      refine (joinKey_own HO.out (by omega) (by rw [HX.out]; have := HKL.out q HBN.out; omega)).mono ?_
      rintro e w2 ⟨rfl, hb2⟩
      have HB2 : Hid (Below w.heap.size w w2) := hnx.trans (hb2.mono hz)
      clear hb2
      go_wp2_with fail
      exact bodyPost_ret (v := .tuple #[.string (strL (catL xs)), .int .i64 (q : Int)]) (by simp [results, Tryz.results86, go_sem]) rfl ⟨q, by rw [HX.out, HEND.out.2], HEND.out.1, HB2.out⟩

set_option maxRecDepth 100000 in
set_option maxHeartbeats 2000000 in
theorem keyFrom_parts (N : Nat → Nd) (n k : Nat) (hn : n ≤ 80) (hk : k < n) (ht : TOK N n) (h67 : (N k).kind = 6 ∨ (N k).kind = 7) (hp : PartsK N n k) : KeySaid N n k := by
  intro b off c w hb hat hmk
  obtain ⟨a0, a1, a2, a3, a4⟩ := hat k hk
  have i0 : (0 : Int) ≤ (k : Int) := by omega
  have i1 : (k : Int) < (n : Int) := by omega
  have HR : Hid ((tree N n k).key = kindB (N k).kind :: (keyTo N n k n ++ [0])) := key_parts hk h67
  have hbl : ∀ o, Below w.heap.size w (w.alloc o) := fun o => (Below.refl _ _).alloc (Nat.le_refl _) o
  have HL : Hid ((keyTo N n k n).length ≤ 2 ^ 20) := by
    obtain ⟨e, he⟩ := end_of (N := N) hk
    have h1 := key_len ht (n - k) k rfl hk e he
    rw [key_parts hk h67, List.length_cons, List.length_append] at h1
    have := he.2.1
    show _ ≤ _
    omega
  have HAT : Hid (NodesAt w b off n N) := hat
  have HMK : Hid (Marks w) := hmk
  have HP : Hid (PartsK N n k) := hp
  have m6 := hmk.2 6 (by omega) (by omega)
  have m7 := hmk.2 7 (by omega) (by omega)
  have hg := hmk.1
  clear hat hmk hp
  rcases h67 with h6 | h6
  all_goals
    rw [h6] at a0 HR
    clear h6
    go_enter Tryz.func69, Tryz.ntmps69
    go_wp2_with fail
    refine (HP.out b off c _ (by simp; omega) (HAT.out.below (hbl _) hb) (HMK.out.below (hbl _))).mono ?_
    rintro e w1 ⟨en, rfl, he1, hb1⟩
    have HE1 : Hid (IsEnd N n k en) := he1
    have HB1 : Hid (Below w.heap.size w w1) := (hbl _).trans (hb1.mono (by simp))
    clear he1 hb1
    go_wp2_with fail
    refine (joinKey3 w1 _ rfl _ _ _ ?_).mono ?_
    · rw [strL_size, strL_size]
      have := HL.out
      show 1 + (keyTo N n k n).length + 1 ≤ _
      omega
    rintro e w2 ⟨rfl, hb2⟩
    have HB2 : Hid (Below w.heap.size w w2) := HB1.out.trans (hb2.mono HB1.out.size)
    clear hb2
    go_wp2_with fail
    refine bodyPost_ret (v := .tuple #[.string _, .int .i64 (en : Int)]) (by simp [results, Tryz.results69, go_sem]; rfl) rfl ⟨en, ?_, HE1.out, HB2.out⟩
    rw [HR.out]
    simp [strL]

theorem keyFrom_any (N : Nat → Nd) (n : Nat) (hn : n ≤ 80) (ht : TOK N n) : ∀ d k, n - k = d → k < n → KeySaid N n k := by
  intro d
  induction d using Nat.strongRecOn with
  | _ d ih =>
    intro k hd hk
    by_cases h67 : (N k).kind = 6 ∨ (N k).kind = 7
    · exact keyFrom_parts N n k hn hk ht h67 (keyOfParts_any N n k hn hk ht h67 (fun p h1 h2 => ih (n - p) (by omega) p rfl h2))
    · exact keyFrom_leaf N n k hn hk ht h67

end Go.Proofs.YtjbjgkkkkghcgaaGreatDoor
