/- The key of a tree, and of nodes in a row. Plain mathematics. -/
import Derived.Test.YthgjelbhhdomdaaDoorTr
namespace Go.Proofs.YthgjelbhhdomdaaDoor

/-- The four bytes of a number, from the highest on. -/
def num4 (z : Int) : List UInt8 := let m := (z + 1000000000).toNat; [UInt8.ofNat (m / 16777216 % 256), UInt8.ofNat (m / 65536 % 256), UInt8.ofNat (m / 256 % 256), UInt8.ofNat (m % 256)]
def kindB (k : Int) : UInt8 := UInt8.ofNat k.toNat

mutual
def Tr.key : Tr → List UInt8
  | .mk k n t nm ks => kindB k :: (if k = 4 then num4 n else if k = 5 then t.data.toList ++ [1] else if k = 6 ∨ k = 7 then Tr.keys ks k nm 0 ++ [0] else [])
def Tr.keys : List Tr → Int → List ByteArray → Nat → List UInt8
  | [], _, _, _ => []
  | t :: ts, k, nm, i => (if k = 7 then 2 :: ((nm.getD i ByteArray.empty).data.toList ++ [1]) else []) ++ (t.key ++ Tr.keys ts k nm (i + 1))
end

theorem Tr.keys_append (l m : List Tr) : ∀ (k : Int) (nm : List ByteArray) (i : Nat), Tr.keys (l ++ m) k nm i = Tr.keys l k nm i ++ Tr.keys m k nm (i + l.length) := by
  induction l with
  | nil => intros; simp [Tr.keys]
  | cons a l ih =>
    intro k nm i
    rw [List.cons_append, Tr.keys, Tr.keys, ih, List.length_cons, List.append_assoc, List.append_assoc]
    congr 4
    omega
theorem Tr.keys_snoc (l : List Tr) (t : Tr) (k : Int) (nm : List ByteArray) (i : Nat) : Tr.keys (l ++ [t]) k nm i = Tr.keys l k nm i ++ ((if k = 7 then 2 :: ((nm.getD (i + l.length) ByteArray.empty).data.toList ++ [1]) else []) ++ t.key) := by
  rw [Tr.keys_append]
  simp [Tr.keys]

/-- The head of a part's key. -/
def keyHead (N : Nat → Nd) (k p : Nat) : List UInt8 := if (N k).kind = 7 then 2 :: ((N p).name.data.toList ++ [1]) else []
/-- The keys of k's parts ahead of q. -/
def keyTo (N : Nat → Nd) (n k q : Nat) : List UInt8 := (kidsTo N k q).flatMap fun p => keyHead N k p ++ (tree N n p).key

theorem keys_map (N : Nat → Nd) (n k : Nat) (nm : List ByteArray) : ∀ (l : List Nat) (i : Nat), (∀ j p, l[j]? = some p → (N k).kind = 7 → nm.getD (i + j) ByteArray.empty = (N p).name) →
    Tr.keys (l.map (tree N n)) (N k).kind nm i = l.flatMap fun p => keyHead N k p ++ (tree N n p).key := by
  intro l
  induction l with
  | nil => intros; simp [Tr.keys]
  | cons p l ih =>
    intro i h
    rw [List.map_cons, Tr.keys, List.flatMap_cons, ih (i + 1) (fun j q hq h7 => by
      have := h (j + 1) q (by simpa using hq) h7
      rwa [show i + (j + 1) = i + 1 + j by omega] at this), ← List.append_assoc]
    congr 2
    unfold keyHead
    split
    · next h7 => rw [show nm.getD i ByteArray.empty = (N p).name by have := h 0 p (by simp) h7; simpa using this]
    · rfl

theorem key_parts {N : Nat → Nd} {n k : Nat} (hk : k < n) (h : (N k).kind = 6 ∨ (N k).kind = 7) : (tree N n k).key = kindB (N k).kind :: (keyTo N n k n ++ [0]) := by
  rw [tree_eq hk, Tr.key, if_neg (by omega), if_neg (by omega), if_pos h]
  congr 2
  unfold keyTo
  refine keys_map N n k _ _ 0 fun j p hp h7 => ?_
  unfold kidNames
  rw [if_pos h7, Nat.zero_add, List.getD_eq_getElem?_getD, List.getElem?_map, hp]
  rfl
theorem key_num {N : Nat → Nd} {n k : Nat} (hk : k < n) (h : (N k).kind = 4) : (tree N n k).key = kindB 4 :: num4 (N k).num := by
  rw [tree_eq hk, Tr.key, if_pos h, h]
theorem key_text {N : Nat → Nd} {n k : Nat} (hk : k < n) (h : (N k).kind = 5) : (tree N n k).key = kindB 5 :: ((N k).text.data.toList ++ [1]) := by
  rw [tree_eq hk, Tr.key, if_neg (by omega), if_pos h, h]
theorem key_word {N : Nat → Nd} {n k : Nat} (hk : k < n) (h4 : (N k).kind ≠ 4) (h5 : (N k).kind ≠ 5) (h : ¬ ((N k).kind = 6 ∨ (N k).kind = 7)) : (tree N n k).key = [kindB (N k).kind] := by
  rw [tree_eq hk, Tr.key, if_neg h4, if_neg h5, if_neg h]

theorem keyTo_start {N : Nat → Nd} {n k : Nat} : keyTo N n k (k + 1) = [] := by
  have hz : ∀ j, j ≤ k + 1 → kidsTo N k j = [] := by
    intro j
    induction j with
    | zero => intro _; rfl
    | succ j ihj => intro hj; rw [kidsTo, if_neg (by omega), ihj (by omega)]
  unfold keyTo
  rw [hz _ (Nat.le_refl _)]
  rfl
theorem keyTo_next {N : Nat → Nd} {n k q e : Nat} (h : Pre N n) (hb : Bnd N n k q) (hq : q < n) (hu : (N q).up = k) (he : IsEnd N n q e) : keyTo N n k e = keyTo N n k q ++ (keyHead N k q ++ (tree N n q).key) := by
  unfold keyTo
  rw [(bnd_next h hb hq hu he).2]
  simp
theorem keyTo_stop {N : Nat → Nd} {n k q : Nat} (h : Pre N n) (hb : Bnd N n k q) (hs : q < n → (N q).up ≠ k) : keyTo N n k n = keyTo N n k q := by
  unfold keyTo
  rw [(bnd_stop h hb hs).2]

end Go.Proofs.YthgjelbhhdomdaaDoor
