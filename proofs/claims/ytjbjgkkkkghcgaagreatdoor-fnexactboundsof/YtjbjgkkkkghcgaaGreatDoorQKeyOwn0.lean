/- Counting the nodes of a tree. Rows of nodes of one's own; trees whose names are as many as their parts. A tree's nodes in a row, by the specification. The key of a tree: the specification. A good value's tree. A node with all its own, by itself: the program and the specification. The key of a value of the call's own: the program and the specification. -/
import Derived.Test.YtjbjgkkkkghcgaaGreatDoorTrMem
import Derived.Test.YtjbjgkkkkghcgaaGreatDoorDeepest
import Derived.Test.YtjbjgkkkkghcgaaGreatDoorTrBld
import Derived.Test.YtjbjgkkkkghcgaaGreatDoorQuote
import Derived.Test.YtjbjgkkkkghcgaaGreatDoorQKeyP
import Derived.Test.YtjbjgkkkkghcgaaGreatDoorGoodOwn
import Derived.Test.YtjbjgkkkkghcgaaGreatDoorTreeM
namespace Go.Proofs.YtjbjgkkkkghcgaaGreatDoor
open Go.RowKit

theorem Tr.cnt_pos (t : Tr) : 0 < t.cnt := by cases t; rw [Tr.cnt]; omega
theorem Tr.cnt_mem {l : List Tr} {t : Tr} (h : t ∈ l) : t.cnt ≤ Tr.cnts l := by
  induction l with
  | nil => simp at h
  | cons a l ih =>
    rw [Tr.cnts]
    rcases List.mem_cons.1 h with rfl | h
    · omega
    · have := ih h; omega
theorem Tr.len_cnts (l : List Tr) : l.length ≤ Tr.cnts l := by
  induction l with
  | nil => simp
  | cons a l ih => rw [Tr.cnts, List.length_cons]; have := a.cnt_pos; omega
theorem Tr.deep_cnt (t : Tr) : t.deep ≤ t.cnt := by
  refine Tr.ind (P := fun t => t.deep ≤ t.cnt) (fun k n t nm ks ih => ?_) t
  rw [Tr.deep, Tr.cnt]
  have h1 : Tr.deeps ks ≤ Tr.cnts ks := by
    by_cases h : ks = []
    · subst h; simp [Tr.deeps]
    · obtain ⟨x, hx, e⟩ := Tr.deeps_some h
      rw [e]
      exact Nat.le_trans (ih x hx) (Tr.cnt_mem hx)
  have h2 : (if holdsB k = true then 1 else 0) ≤ 1 := by split <;> omega
  omega

theorem deeps_take {ks : List Tr} {m : Nat} {x : Tr} (h : ks[m]? = some x) : Tr.deeps (ks.take (m + 1)) = max (Tr.deeps (ks.take m)) x.deep := by
  rw [List.take_add_one, h]
  exact Tr.deeps_snoc _ _
theorem deeps_take_le (ks : List Tr) (m : Nat) : Tr.deeps (ks.take m) ≤ Tr.deeps ks := by
  by_cases h : ks.take m = []
  · rw [h]; simp [Tr.deeps]
  · obtain ⟨t, ht, e⟩ := Tr.deeps_some h
    rw [e]
    exact Tr.le_deeps (List.mem_of_mem_take ht)

end Go.Proofs.YtjbjgkkkkghcgaaGreatDoor
namespace Go.Proofs.YtjbjgkkkkghcgaaGreatDoor
open Go.RowKit
set_option linter.unusedVariables false

theorem infoNode5 : (Tryz.prog.info? 66).map (fun i => (i.zero, i.size, i.bytes)) = some (some (.agg #[.int .i64 0, .int .i64 0, .string ⟨#[]⟩, .string ⟨#[]⟩, .int .i64 0]), 5, 56) := by kernel_rfl

/-- The cells of nodes in a row. -/
def ndCells (l : List Nd) : List Value := l.flatMap fun x => [.int .i64 x.kind, .int .i64 x.num, .string x.text, .string x.name, .int .i64 x.up]
theorem nd_snoc (l : List Nd) (x : Nd) : ndCells (l ++ [x]) = ndCells l ++ [.int .i64 x.kind, .int .i64 x.num, .string x.text, .string x.name, .int .i64 x.up] := by simp [ndCells]
def OwnsN (w : World) (B : Nat) (v : Value) (l : List Nd) : Prop := w.ownsRow B 66 5 v l.length (ndCells l)

mutual
/-- In each map there is a name for each part. -/
def Tr.named : Tr → Prop
  | .mk k _ _ nm ks => (k = 7 → nm.length = ks.length) ∧ Tr.nameds ks
def Tr.nameds : List Tr → Prop
  | [] => True
  | t :: ts => t.named ∧ Tr.nameds ts
end
theorem Tr.nameds_mem {l : List Tr} : Tr.nameds l ↔ ∀ t ∈ l, t.named := by
  induction l with
  | nil => simp [Tr.nameds]
  | cons a l ih => rw [Tr.nameds, ih]; simp

/-- A tree opened, its rows in blocks of S. -/
theorem TreeIs.open {w : World} {S : Nat → Prop} {k n : Int} {t : ByteArray} {nm : List ByteArray} {ks : List Tr} {v : Value} (h : TreeIs w S (.mk k n t nm ks) v) :
    ∃ an cn ak ck, v = .agg #[.int .i64 k, .int .i64 n, .string t, .slice an nm.length cn, .slice ak ks.length ck] ∧ NamsAt w S an nm ∧
      (ks = [] ∨ ∃ g, ak = some ⟨g, 0, none⟩ ∧ S g ∧ g < w.heap.size ∧ ∀ i x, ks[i]? = some x → KidAt w S x g i) := by
  rw [TreeIs] at h
  obtain ⟨an, cn, ak, ck, rfl, hn, hks, _⟩ := h
  refine ⟨an, cn, ak, ck, rfl, hn, ?_⟩
  rcases hks with h | ⟨g, rfl, h1, h2, h3⟩
  · exact .inl h
  · refine .inr ⟨g, rfl, h1, h2, fun i x hx => ?_⟩
    have := kidsAt_iff.1 h3 i x hx
    rwa [Nat.zero_add] at this
theorem KidAt.cellsS {w : World} {S : Nat → Prop} {x : Tr} {g i : Nat} (h : KidAt w S x g i) : ∃ an cn ak ck, w.cell? ⟨g, i * 5, none⟩ = some (.int .i64 x.kind) ∧ w.cell? ⟨g, i * 5 + 1, none⟩ = some (.int .i64 x.num) ∧ w.cell? ⟨g, i * 5 + 2, none⟩ = some (.string x.text) ∧
    w.cell? ⟨g, i * 5 + 3, none⟩ = some (.slice an x.names.length cn) ∧ w.cell? ⟨g, i * 5 + 4, none⟩ = some (.slice ak x.kids.length ck) ∧ TreeIs w S x (.agg #[.int .i64 x.kind, .int .i64 x.num, .string x.text, .slice an x.names.length cn, .slice ak x.kids.length ck]) := by
  obtain ⟨x0, x1, x2, x3, x4, c0, c1, c2, c3, c4, hx⟩ := h
  obtain ⟨k, n, t, nm, ks⟩ := x
  obtain ⟨an, cn, ak, ck, e, _, _⟩ := TreeIs.open (v := .agg #[x0, x1, x2, x3, x4]) hx
  simp only [Value.agg.injEq, Array.mk.injEq, List.cons.injEq, and_true] at e
  obtain ⟨rfl, rfl, rfl, rfl, rfl⟩ := e
  exact ⟨an, cn, ak, ck, c0, c1, c2, c3, c4, hx⟩

theorem nd_news (W : World) (x : Nd) (T : TypeId) (H : Nat) (hH : W.heap.size = H) : ∀ (j : Nat) (u : Value), [Value.int .i64 x.kind, .int .i64 x.num, .string x.text, .string x.name, .int .i64 x.up][j]? = some u → (W.alloc (.cells #[.int .i64 x.kind, .int .i64 x.num, .string x.text, .string x.name, .int .i64 x.up] T)).cell? ((⟨H, 0, none⟩ : Addr).add j) = some u := by
  intro j u h
  subst hH
  have e : (⟨W.heap.size, 0, none⟩ : Addr).add j = ⟨W.heap.size, j, none⟩ := by unfold Addr.add; split <;> simp_all
  rw [e, World.cell?_alloc_new]
  simpa using h
theorem nd_one (k n u : Int) (t m : ByteArray) : ∀ x : Value, x ∈ [Value.int .i64 k, .int .i64 n, .string t, .string m, .int .i64 u] → x.oneCell' = true := by
  intro x hx
  simp at hx
  rcases hx with rfl | rfl | rfl | rfl | rfl <;> rfl

/-- The row is where it was, or in a new block from H on. -/
def Moved (H : Nat) (lv lv' : Value) : Prop := lv'.ownBlock = lv.ownBlock ∨ ∃ g, lv'.ownBlock = some g ∧ H ≤ g
theorem Moved.ne {H k : Nat} {lv lv' : Value} (h : Moved H lv lv') (hk : k < H) (hn : some k ≠ lv.ownBlock) : some k ≠ lv'.ownBlock := fun e => by
  rcases h with h | ⟨g, h, hg⟩
  · rw [h] at e; exact hn e
  · rw [h] at e; injection e with e; omega
theorem grown_on {w wr w2 : World} {lv q : Value} (h : w.grownBy wr lv.ownBlock) (hm : Moved w.heap.size lv q) (k : wr.grownBy w2 q.ownBlock) : w.grownBy w2 lv.ownBlock :=
  ⟨k.os.trans h.os, k.tape.trans h.tape, k.output.trans h.output, Nat.le_trans h.size k.size, fun b hb hn => (k.block b (Nat.lt_of_lt_of_le hb h.size) (hm.ne hb hn)).trans (h.block b hb hn)⟩

theorem OwnsN.form {w : World} {B : Nat} {v : Value} {l : List Nd} (h : OwnsN w B v l) : ∃ a c, v = .slice a l.length c := by
  rcases h.2 with ⟨rfl, e⟩ | ⟨g, cap, cur, rfl, _⟩
  · exact ⟨none, 0, by rw [e]⟩
  · exact ⟨_, _, rfl⟩

end Go.Proofs.YtjbjgkkkkghcgaaGreatDoor
namespace Go.Proofs.YtjbjgkkkkghcgaaGreatDoor
open Go.RowKit
set_option linter.unusedVariables false
end Go.Proofs.YtjbjgkkkkghcgaaGreatDoor
namespace Go.Proofs.YtjbjgkkkkghcgaaGreatDoor
open Go.RowKit
set_option linter.unusedVariables false

mutual
/-- Kinds and numbers that a key can tell. -/
def Tr.sane : Tr → Prop
  | .mk k n _ _ ks => 0 ≤ k ∧ k < 256 ∧ (k = 4 → 0 ≤ n + 1000000000 ∧ n + 1000000000 < 4294967296) ∧ Tr.sanes ks
def Tr.sanes : List Tr → Prop
  | [] => True
  | t :: ts => t.sane ∧ Tr.sanes ts
end
theorem Tr.sanes_mem {l : List Tr} : Tr.sanes l ↔ ∀ t ∈ l, t.sane := by
  induction l with
  | nil => simp [Tr.sanes]
  | cons a l ih => rw [Tr.sanes, ih]; simp

def KeyTSaid (t : Tr) : Prop := ∀ (v : Value) (w : World), Tree w t v → t.named → t.sane → t.key.length ≤ 2 ^ 20 → t.cnt ≤ 2 ^ 20 →
    Calls Tryz.prog 27 #[v] w fun e w' => e = .returned (.string (strL t.key)) ∧ Below w.heap.size w w'

theorem conv_next (w : World) (o : Obj) (x : Int) : (convert 73 9 (.slice (some ⟨w.heap.size + 1, 0, none⟩) 1 1)).run Tryz.prog ((w.alloc o).alloc (.cells #[.int .u8 x] 5)) = .ok (.string (strL [kindB x])) ((w.alloc o).alloc (.cells #[.int .u8 x] 5)) := by
  have h := conv_one (w.alloc o) x
  rw [World.size_alloc] at h
  exact h
theorem conv_next4 (w : World) (o o' : Obj) (a b c d : Int) : (convert 73 9 (.slice (some ⟨w.heap.size + 1 + 1, 0, none⟩) 4 4)).run Tryz.prog (((w.alloc o).alloc o').alloc (.cells #[.int .u8 a, .int .u8 b, .int .u8 c, .int .u8 d] 5)) = .ok (.string (strOfNums [a, b, c, d])) (((w.alloc o).alloc o').alloc (.cells #[.int .u8 a, .int .u8 b, .int .u8 c, .int .u8 d] 5)) := by
  have h := conv_four ((w.alloc o).alloc o') a b c d
  rw [World.size_alloc, World.size_alloc] at h
  exact h
theorem four_size (a b c d : Int) : (strOfNums [a, b, c, d]).size = 4 := rfl
theorem num_four' (m : Nat) (hm : m < 4294967296) : strOfNums [(m : Int) / 16777216, (m : Int) / 65536 % 256, (m : Int) / 256 % 256, (m : Int) % 256] = strL (num4 ((m : Int) - 1000000000)) := by
  unfold strOfNums strL num4
  have e : ((m : Int) - 1000000000 + 1000000000).toNat = m := by omega
  have e0 : ((m : Int) / 16777216).toNat = m / 16777216 % 256 := by omega
  have e1 : ((m : Int) / 65536 % 256).toNat = m / 65536 % 256 := by omega
  have e2 : ((m : Int) / 256 % 256).toNat = m / 256 % 256 := by omega
  have e3 : ((m : Int) % 256).toNat = m % 256 := by omega
  simp only [List.map_cons, List.map_nil, e, e0, e1, e2, e3]
theorem strL_text (t : ByteArray) : t = strL t.data.toList := rfl
theorem strL_one (x : UInt8) : (strL [x]).size = 1 := rfl
theorem key_cat {L K : List UInt8} {t : ByteArray} : Value.string (strL L ++ (⟨#[2]⟩ ++ t ++ ⟨#[1]⟩) ++ strL K) = .string (strL (L ++ ((2 :: (t.data.toList ++ [1])) ++ K))) := by
  congr 1
  have e : (⟨#[2]⟩ : ByteArray) ++ t ++ ⟨#[1]⟩ = strL (2 :: (t.data.toList ++ [1])) := by
    show strL [2] ++ strL t.data.toList ++ strL [1] = _
    rw [strL_append, strL_append]
    rfl
  rw [e, strL_append, strL_append, List.append_assoc]
theorem kindB_one (k : Int) : strOfNums [k] = strL [kindB k] := rfl

set_option maxRecDepth 100000 in
set_option maxHeartbeats 4000000 in
theorem l2Key_step (k n : Int) (t : ByteArray) (nm : List ByteArray) (ks : List Tr) (ih : ∀ x ∈ ks, KeyTSaid x) : KeyTSaid (.mk k n t nm ks) := by
  intro v w h hnd hsn hkl hcn
  obtain ⟨an, cn, ak, ck, rfl, hnm, hk⟩ := h.open
  rw [Tr.named] at hnd
  rw [Tr.sane] at hsn
  rw [Tr.cnt] at hcn
  have hl1 := Tr.len_cnts ks
  have HN : Hid ((k = 7 → nm.length = ks.length) ∧ ∀ x ∈ ks, x.named) := ⟨hnd.1, Tr.nameds_mem.1 hnd.2⟩
  have HS : Hid (∀ x ∈ ks, x.sane) := Tr.sanes_mem.1 hsn.2.2.2
  have k0 := hsn.1
  have k1 := hsn.2.1
  have k4 := hsn.2.2.1
  have HIH : Hid (∀ x ∈ ks, KeyTSaid x) := ih
  have HNM : Hid (NamsAt w (fun _ => True) an nm) := hnm
  have HK : Hid (ks = [] ∨ ∃ g, ak = some ⟨g, 0, none⟩ ∧ g < w.heap.size ∧ ∀ i x, ks[i]? = some x → KidAt w (fun _ => True) x g i) := hk
  have HKL : Hid ((Tr.mk k n t nm ks).key.length ≤ 2 ^ 20) := hkl
  have HR : Hid ((Tr.mk k n t nm ks).key = kindB k :: (if k = 4 then num4 n else if k = 5 then t.data.toList ++ [1] else if k = 6 ∨ k = 7 then Tr.keys ks k nm 0 ++ [0] else [])) := by show _ = _; rw [Tr.key]
  have hcv := conv_next w
  have hs1 := strL_one
  clear ih hnm hk hnd hsn h hkl
  by_cases h4 : k = 4
  · rw [if_pos h4] at HR
    subst h4
    obtain ⟨m, hm⟩ := Int.eq_ofNat_of_zero_le (k4 rfl).1
    have hmb : m < 4294967296 := by have := (k4 rfl).2; omega
    obtain rfl : n = (m : Int) - 1000000000 := by omega
    clear k4 hm
    have hcv4 := conv_next4 w
    have hs4 := four_size
    have HF := num_four' m hmb
    have HF' : Hid (strOfNums [(m : Int) / 16777216, (m : Int) / 65536 % 256, (m : Int) / 256 % 256, (m : Int) % 256] = strL (num4 ((m : Int) - 1000000000))) := HF
    clear HF
    go_enter Tryz.func27, Tryz.ntmps27
    go_wp2_with fail
    go_ret
    refine ⟨?_, by go_grown⟩
    rw [HR.out]
    show Ending.returned (.string (strL [kindB 4] ++ strOfNums _)) = _
    rw [HF'.out, strL_append]
    rfl
  · by_cases h5 : k = 5
    · rw [if_neg h4, if_pos h5] at HR
      subst h5
      have htz : t.size ≤ 2 ^ 20 := by
        have := HKL.out
        rw [HR.out, List.length_cons, List.length_append, Array.length_toList] at this
        have e : t.data.size = t.size := rfl
        omega
      go_enter Tryz.func27, Tryz.ntmps27
      go_wp2_with fail
      go_ret
      refine ⟨?_, by go_grown⟩
      rw [HR.out]
      show Ending.returned (.string (strL [kindB 5] ++ t ++ strL [1])) = _
      rw [strL_text t, strL_append, strL_append]
      rfl
    · by_cases h67 : k = 6 ∨ k = 7
      · have e4 : (k == 4) = false := by simpa using h4
        have e5 : (k == 5) = false := by simpa using h5
        rw [if_neg h4, if_neg h5, if_pos h67] at HR
        rcases h67 with h6 | h6
        · subst h6
          go_enter Tryz.func27, Tryz.ntmps27
          go_wp2_with fail
          go_loopw [3, 48] (fun q i wr => ∃ (m : Nat) (L : List UInt8), m ≤ ks.length ∧ i = .int .i64 m ∧ q = .string (strL L) ∧ Hid (L = kindB 6 :: Tr.keys (ks.take m) 6 nm 0) ∧ (strL L).size ≤ 2 ^ 20 ∧ Below w.heap.size w wr ∧ w.heap.size < wr.heap.size ∧ wr.cell? ⟨w.heap.size, 0, none⟩ = some (.int .i64 6) ∧ wr.cell? ⟨w.heap.size, 3, none⟩ = some (.slice an nm.length cn)) (fun _ i _ => ks.length - (intOf i).toNat)
          case atStart => exact ⟨0, [kindB 6], Nat.zero_le _, rfl, rfl, by show _ = _; simp [Tr.keys], by rw [strL_size]; simp, by go_grown, by simp; omega, by simp [go_sem], by simp [go_sem]⟩
          case round =>
            obtain ⟨m, L, hm, rfl, rfl, HL, hsz, hnx, hzw, u0, u3⟩ := hrel
            by_cases hlt : m < ks.length
            · obtain ⟨x, hx⟩ : ∃ x, ks[m]? = some x := ⟨ks[m], List.getElem?_eq_getElem hlt⟩
              rcases HK.out with h0 | ⟨g, rfl, hg, hkid⟩
              · rw [h0] at hlt; simp at hlt
              obtain ⟨an', cn', ak', ck', c0, c1, c2, c3, c4, htr⟩ := ((hkid m x hx).keep (fun b' _ hl' => hnx.block b' hl') (fun _ _ _ => trivial) hnx.size (hnx.block g hg)).cells
              have hxm := List.mem_of_getElem? hx
              have HTR : Hid (Tree wr x (.agg #[.int .i64 x.kind, .int .i64 x.num, .string x.text, .slice an' x.names.length cn', .slice ak' x.kids.length ck'])) := htr
              have HXS : Hid (KeyTSaid x) := HIH.out x hxm
              have htk : ks.take (m + 1) = ks.take m ++ [x] := by rw [List.take_add_one, hx]; rfl
              have hst := Tr.keys_snoc (ks.take m) x 6 nm 0
              rw [← htk, Nat.zero_add, show (ks.take m).length = m by rw [List.length_take]; omega] at hst
              have hpre : (kindB 6 :: Tr.keys (ks.take (m + 1)) 6 nm 0).length ≤ 2 ^ 20 := by
                have h1 := HKL.out
                rw [HR.out] at h1
                have h2 := Tr.keys_append (ks.take (m + 1)) (ks.drop (m + 1)) 6 nm 0
                rw [List.take_append_drop] at h2
                rw [h2] at h1
                simp only [List.length_cons, List.length_append] at h1 ⊢
                omega
              have hcx : x.cnt ≤ 2 ^ 20 := by have := Tr.cnt_mem hxm; omega
              have j0 : (0 : Int) ≤ (m : Int) := by omega
              have j1 : (m : Int) < (ks.length : Int) := by omega
              have hgw : g < wr.heap.size := by omega
              have hpl := hpre
              rw [hst] at hpl
              have HXL : x.key.length ≤ 2 ^ 20 := by simp only [List.length_cons, List.length_append] at hpl; omega
              have HST : Hid (kindB 6 :: Tr.keys (ks.take (m + 1)) 6 nm 0 = L ++ ([] ++ x.key)) := by
                show _ = _
                rw [hst, HL.out]
                simp
              have hz2 : (strL x.key).size ≤ 2 ^ 20 := by rw [strL_size]; exact HXL
              clear hkid htr hst hpl htk hx
              go_wp2_with fail
              refine (HXS.out _ _ (HTR.out.below ((Below.refl _ _).alloc (Nat.le_refl _) _)) (HN.out.2 x hxm) (HS.out x hxm) HXL hcx).mono ?_
              rintro e w2 ⟨rfl, hb2⟩
              have B2 : Below wr.heap.size wr w2 := ((Below.refl _ _).alloc (Nat.le_refl _) _).trans (hb2.mono (by simp))
              have HB2 : Hid (Below w.heap.size w w2) := hnx.trans (B2.mono hnx.size)
              have p0 := (B2.cell (p := ⟨w.heap.size, 0, none⟩) hzw).trans u0
              have p3 := (B2.cell (p := ⟨w.heap.size, 3, none⟩) hzw).trans u3
              have zz2 : w.heap.size < w2.heap.size := Nat.lt_of_lt_of_le hzw B2.size
              clear hb2 B2 c0 c1 c2 c3 c4
              go_wp2_with fail
              go_roundw
              case rel => exact ⟨m + 1, kindB 6 :: Tr.keys (ks.take (m + 1)) 6 nm 0, by omega, by go_num, by rw [HST.out]; rw [List.nil_append, ← strL_append], rfl, by rw [strL_size]; exact hpre, HB2.out, zz2, p0, p3⟩
              case measure => simp [intOf]; omega
            · obtain rfl : m = ks.length := by omega
              rw [List.take_length] at HL
              go_wp2_with fail
              go_ret
              refine ⟨?_, hnx⟩
              show Ending.returned (.string (strL L ++ strL [0])) = _
              rw [HR.out, HL.out, strL_append]
              rfl
        · subst h6
          go_enter Tryz.func27, Tryz.ntmps27
          go_wp2_with fail
          go_loopw [3, 48] (fun q i wr => ∃ (m : Nat) (L : List UInt8), m ≤ ks.length ∧ i = .int .i64 m ∧ q = .string (strL L) ∧ Hid (L = kindB 7 :: Tr.keys (ks.take m) 7 nm 0) ∧ (strL L).size ≤ 2 ^ 20 ∧ Below w.heap.size w wr ∧ w.heap.size < wr.heap.size ∧ wr.cell? ⟨w.heap.size, 0, none⟩ = some (.int .i64 7) ∧ wr.cell? ⟨w.heap.size, 3, none⟩ = some (.slice an nm.length cn)) (fun _ i _ => ks.length - (intOf i).toNat)
          case atStart => exact ⟨0, [kindB 7], Nat.zero_le _, rfl, rfl, by show _ = _; simp [Tr.keys], by rw [strL_size]; simp, by go_grown, by simp; omega, by simp [go_sem], by simp [go_sem]⟩
          case round =>
            obtain ⟨m, L, hm, rfl, rfl, HL, hsz, hnx, hzw, u0, u3⟩ := hrel
            by_cases hlt : m < ks.length
            · obtain ⟨x, hx⟩ : ∃ x, ks[m]? = some x := ⟨ks[m], List.getElem?_eq_getElem hlt⟩
              rcases HK.out with h0 | ⟨g, rfl, hg, hkid⟩
              · rw [h0] at hlt; simp at hlt
              obtain ⟨an', cn', ak', ck', c0, c1, c2, c3, c4, htr⟩ := ((hkid m x hx).keep (fun b' _ hl' => hnx.block b' hl') (fun _ _ _ => trivial) hnx.size (hnx.block g hg)).cells
              have hxm := List.mem_of_getElem? hx
              have HTR : Hid (Tree wr x (.agg #[.int .i64 x.kind, .int .i64 x.num, .string x.text, .slice an' x.names.length cn', .slice ak' x.kids.length ck'])) := htr
              have HXS : Hid (KeyTSaid x) := HIH.out x hxm
              have htk : ks.take (m + 1) = ks.take m ++ [x] := by rw [List.take_add_one, hx]; rfl
              have hst := Tr.keys_snoc (ks.take m) x 7 nm 0
              rw [← htk, Nat.zero_add, show (ks.take m).length = m by rw [List.length_take]; omega] at hst
              have hpre : (kindB 7 :: Tr.keys (ks.take (m + 1)) 7 nm 0).length ≤ 2 ^ 20 := by
                have h1 := HKL.out
                rw [HR.out] at h1
                have h2 := Tr.keys_append (ks.take (m + 1)) (ks.drop (m + 1)) 7 nm 0
                rw [List.take_append_drop] at h2
                rw [h2] at h1
                simp only [List.length_cons, List.length_append] at h1 ⊢
                omega
              have hcx : x.cnt ≤ 2 ^ 20 := by have := Tr.cnt_mem hxm; omega
              have j0 : (0 : Int) ≤ (m : Int) := by omega
              have j1 : (m : Int) < (ks.length : Int) := by omega
              have hgw : g < wr.heap.size := by omega
              have hpl := hpre
              rw [hst] at hpl
              have hnl := HN.out.1 (by trivial)
              rcases HNM.out with h0 | ⟨gn, rfl, _, hgn, hnc⟩
              · rw [h0] at hnl; simp at hnl; omega
              have s1 : wr.cell? ⟨gn, m, none⟩ = some (.string (nm.getD m ByteArray.empty)) := (hnx.cell hgn).trans (hnc m (by omega))
              obtain ⟨nx, hnx1⟩ : ∃ nx, nx = nm.getD m ByteArray.empty := ⟨_, rfl⟩
              rw [← hnx1] at s1 hst hpl
              have j4 : (m : Int) < (nm.length : Int) := by omega
              have hgn' : gn < wr.heap.size := by omega
              have hnz : nx.size ≤ 2 ^ 20 := by
                have e : nx.data.toList.length = nx.size := by rw [Array.length_toList]; rfl
                simp only [if_pos, List.length_cons, List.length_append, e] at hpl
                omega
              have HXL : x.key.length ≤ 2 ^ 20 := by simp only [if_pos, List.length_cons, List.length_append] at hpl; omega
              have HST : Hid (kindB 7 :: Tr.keys (ks.take (m + 1)) 7 nm 0 = L ++ ((2 :: (nx.data.toList ++ [1])) ++ x.key)) := by
                show _ = _
                rw [hst, HL.out]
                simp
              have hz2 : (strL x.key).size ≤ 2 ^ 20 := by rw [strL_size]; exact HXL
              clear hkid htr hst hpl htk hx hnx1 hnc hnl
              go_wp2_with fail
              refine (HXS.out _ _ (HTR.out.below ((Below.refl _ _).alloc (Nat.le_refl _) _)) (HN.out.2 x hxm) (HS.out x hxm) HXL hcx).mono ?_
              rintro e w2 ⟨rfl, hb2⟩
              have B2 : Below wr.heap.size wr w2 := ((Below.refl _ _).alloc (Nat.le_refl _) _).trans (hb2.mono (by simp))
              have HB2 : Hid (Below w.heap.size w w2) := hnx.trans (B2.mono hnx.size)
              have p0 := (B2.cell (p := ⟨w.heap.size, 0, none⟩) hzw).trans u0
              have p3 := (B2.cell (p := ⟨w.heap.size, 3, none⟩) hzw).trans u3
              have zz2 : w.heap.size < w2.heap.size := Nat.lt_of_lt_of_le hzw B2.size
              clear hb2 B2 c0 c1 c2 c3 c4
              go_wp2_with fail
              go_roundw
              case rel => exact ⟨m + 1, kindB 7 :: Tr.keys (ks.take (m + 1)) 7 nm 0, by omega, by go_num, by rw [HST.out]; exact key_cat, rfl, by rw [strL_size]; exact hpre, HB2.out, zz2, p0, p3⟩
              case measure => simp [intOf]; omega
            · obtain rfl : m = ks.length := by omega
              rw [List.take_length] at HL
              go_wp2_with fail
              go_ret
              refine ⟨?_, hnx⟩
              show Ending.returned (.string (strL L ++ strL [0])) = _
              rw [HR.out, HL.out, strL_append]
              rfl
      · have e4 : (k == 4) = false := by simpa using h4
        have e5 : (k == 5) = false := by simpa using h5
        have e6 : (k == 6) = false := by rw [beq_eq_false_iff_ne]; exact fun h => h67 (.inl h)
        have e7 : (k == 7) = false := by rw [beq_eq_false_iff_ne]; exact fun h => h67 (.inr h)
        rw [if_neg h4, if_neg h5, if_neg h67] at HR
        go_enter Tryz.func27, Tryz.ntmps27
        go_wp2_with fail
        go_ret
        exact ⟨by rw [HR.out]; rfl, by go_grown⟩

theorem l2Key_any (t : Tr) : KeyTSaid t := Tr.ind (P := KeyTSaid) (fun k n t nm ks ih => l2Key_step k n t nm ks ih) t

end Go.Proofs.YtjbjgkkkkghcgaaGreatDoor
namespace Go.Proofs.YtjbjgkkkkghcgaaGreatDoor
open Go.RowKit
set_option linter.unusedVariables false

theorem good_pre {N : Nat → Nd} {n : Nat} (h : GoodV N n) : Pre N n := h.1.2.2.pre
theorem text_empty {t : ByteArray} (h : noText t = true) : t = ByteArray.empty := by
  have h0 : t.toList = [] := List.isEmpty_iff.1 h
  rw [ByteArray.toList_eq] at h0
  cases t with
  | mk a => cases a with
    | mk l => simp at h0; subst h0; rfl
theorem good_noNames {N : Nat → Nd} {n : Nat} (h : GoodV N n) : NoNames N n := fun p h0 hp hk => by
  rcases (h.1.2.2 p hp).2.1 with ⟨e, _⟩ | ⟨_, _, _, _, ⟨_, h⟩ | ⟨h, _⟩⟩
  · omega
  · exact text_empty h
  · exact absurd h hk
theorem good_zero {N : Nat → Nd} {n : Nat} (h : GoodV N n) : (N 0).name = ByteArray.empty := by
  rcases (h.1.2.2 0 h.1.1).2.1 with ⟨_, _, h⟩ | ⟨h, _⟩
  · exact text_empty h
  · omega
theorem good_flat {N : Nat → Nd} {n : Nat} (h : GoodV N n) : (tree N n 0).flat ByteArray.empty (-1) 0 = (List.range n).map N := flat_whole (good_pre h) (good_noNames h) h.1.1 (good_zero h)
theorem good_cnt {N : Nat → Nd} {n : Nat} (h : GoodV N n) : (tree N n 0).cnt = n := by
  have := congrArg List.length (good_flat h)
  rw [Tr.flat_length] at this
  simpa using this
end Go.Proofs.YtjbjgkkkkghcgaaGreatDoor
namespace Go.Proofs.YtjbjgkkkkghcgaaGreatDoor
open Go.RowKit
set_option linter.unusedVariables false

/-- The nodes of k up to q, by themselves. -/
def subTo (N : Nat → Nd) (k q : Nat) : List Nd := ⟨(N k).kind, (N k).num, (N k).text, ⟨#[]⟩, -1⟩ :: seg N k (k + 1) q
theorem subTo_len (N : Nat → Nd) (k q : Nat) : (subTo N k q).length = q - (k + 1) + 1 := by unfold subTo; rw [List.length_cons, seg_len]
theorem subTo_snoc {N : Nat → Nd} {k q : Nat} (h : k < q) : subTo N k (q + 1) = subTo N k q ++ [{ N q with up := (N q).up - k }] := by
  unfold subTo
  rw [seg_cat N k (a := k + 1) (m := q) (e := q + 1) (by omega) (by omega), seg_cons N k (Nat.lt_succ_self q), seg_nil]
  rfl

/-- WHAT SubOf ANSWERS. -/
def STold (N : Nat → Nd) (n : Nat) (z : Int) (q : Bool) (L : List Nd) : Prop := (q = true ∧ HasN N n z ∧ ∃ e, IsEnd N n z.toNat e ∧ L = subTo N z.toNat e) ∨ (q = false ∧ ¬ HasN N n z ∧ L = [])
theorem STold.same {N : Nat → Nd} {n : Nat} {z : Int} {q r : Bool} {L M : List Nd} (h : STold N n z q L) (k : STold N n z r M) : q = r ∧ L = M := by
  rcases h with ⟨rfl, g, e, he, rfl⟩ | ⟨rfl, g, rfl⟩ <;> rcases k with ⟨rfl, g', e', he', rfl⟩ | ⟨rfl, g', rfl⟩
  · rw [end_unique he he']; exact ⟨rfl, rfl⟩
  · exact absurd g g'
  · exact absurd g' g
  · exact ⟨rfl, rfl⟩

/-- A row of nodes of the call's own, as a value's. -/
theorem OwnsN.own {w : World} {B : Nat} {v : Value} {L : List Nd} (h : OwnsN w B v L) (hl : L.length ≤ 2 ^ 30) : ∃ b, (L ≠ [] → B ≤ b ∧ b < w.heap.size) ∧ OwnAt w b v L.length (fun i => L.getD i ⟨0, 0, ⟨#[]⟩, ⟨#[]⟩, 0⟩) := by
  have hc := @World.ownsRow.cells _ _ _ _ _ _ _ h
  have hlt := @World.ownsRow.lt _ _ _ _ _ _ _ h
  rcases h.2 with ⟨rfl, e⟩ | ⟨g, cap, cur, rfl, hg, hh, hcap, _, hcs, _⟩
  · exact ⟨0, fun hn => absurd (List.eq_nil_of_length_eq_zero e) hn, none, 0, 0, by rw [e], hl, .inl e⟩
  · refine ⟨g, fun _ => hlt g rfl, _, cap, 0, rfl, hl, .inr ⟨rfl, (hlt g rfl).2, fun i hi => ?_, fun o ho => ?_⟩⟩
    · have hget : ∀ (l : List Nd) (i : Nat) (hi : i < l.length), (ndCells l)[i * 5]? = some (.int .i64 l[i].kind) ∧ (ndCells l)[i * 5 + 1]? = some (.int .i64 l[i].num) ∧ (ndCells l)[i * 5 + 2]? = some (.string l[i].text) ∧ (ndCells l)[i * 5 + 3]? = some (.string l[i].name) ∧ (ndCells l)[i * 5 + 4]? = some (.int .i64 l[i].up) := by
        intro l
        induction l with
        | nil => intro i hi; simp at hi
        | cons y l ih =>
          intro i hi
          have hcc : ndCells (y :: l) = [.int .i64 y.kind, .int .i64 y.num, .string y.text, .string y.name, .int .i64 y.up] ++ ndCells l := by simp [ndCells]
          rw [hcc]
          cases i with
          | zero => simp
          | succ i =>
            have := ih i (by simpa using hi)
            have e : ∀ j, ([Value.int .i64 y.kind, .int .i64 y.num, .string y.text, .string y.name, .int .i64 y.up] ++ ndCells l)[(i + 1) * 5 + j]? = (ndCells l)[i * 5 + j]? := fun j => by
              rw [List.getElem?_append_right (by simp; omega)]
              congr 1
              simp
              omega
            exact ⟨(e 0).trans this.1, (e 1).trans this.2.1, (e 2).trans this.2.2.1, (e 3).trans this.2.2.2.1, (e 4).trans this.2.2.2.2⟩
      have hadd : ∀ j : Nat, (⟨g, 0, none⟩ : Addr).add j = ⟨g, j, none⟩ := fun j => by unfold Addr.add; split <;> simp_all
      obtain ⟨q0, q1, q2, q3, q4⟩ := hget L i hi
      have hcc := fun j u hu => (hadd j) ▸ hc (g := g) rfl j u hu
      have eL : L.getD i ⟨0, 0, ⟨#[]⟩, ⟨#[]⟩, 0⟩ = L[i] := by rw [List.getD_eq_getElem?_getD, List.getElem?_eq_getElem hi]; rfl
      simp only [Nat.zero_add, eL]
      exact ⟨hcc _ _ q0, hcc _ _ q1, hcc _ _ q2, hcc _ _ q3, hcc _ _ q4⟩
    · simp [World.frozen?, hh]

def SubIs (N : Nat → Nd) (n : Nat) (z : Int) (w : World) (e : Ending) (w' : World) : Prop :=
  ∃ v q b L, e = .returned (.tuple #[.agg #[v], .bool q]) ∧ STold N n z q L ∧ (L ≠ [] → w.heap.size ≤ b ∧ b < w'.heap.size) ∧ OwnAt w' b v L.length (fun i => L.getD i ⟨0, 0, ⟨#[]⟩, ⟨#[]⟩, 0⟩) ∧ Below w.heap.size w w'

theorem SubIs.no {N : Nat → Nd} {n : Nat} {z : Int} {w w' : World} (h : ¬ HasN N n z) (hb : Below w.heap.size w w') : SubIs N n z w (.returned (.tuple #[.agg #[.slice none 0 0], .bool false])) w' :=
  ⟨_, _, 0, [], rfl, .inr ⟨rfl, h, rfl⟩, fun h => absurd rfl h, ⟨none, 0, 0, rfl, by decide, .inl rfl⟩, hb⟩
theorem SubIs.yes {N : Nat → Nd} {n k e B : Nat} {w w' : World} {v : Value} (h : HasN N n k) (he : IsEnd N n k e) (hB : w.heap.size ≤ B) (hn : n ≤ 2 ^ 20) (ho : OwnsN w' B v (subTo N k e)) (hb : Below w.heap.size w w') : SubIs N n k w (.returned (.tuple #[.agg #[v], .bool true])) w' := by
  obtain ⟨b, h1, h2⟩ := ho.own (by rw [subTo_len]; have := he.2.1; omega)
  exact ⟨v, true, b, subTo N k e, rfl, .inl ⟨rfl, h, e, by simpa using he, by simp⟩, fun hn => ⟨Nat.le_trans hB (h1 hn).1, (h1 hn).2⟩, h2, hb⟩

/-- The trees of nodes name their parts. -/
theorem tree_named (N : Nat → Nd) (n : Nat) : ∀ d k, n - k = d → k < n → (tree N n k).named := by
  intro d
  induction d using Nat.strongRecOn with
  | _ d ih =>
    intro k hd hk
    rw [tree_eq hk, Tr.named]
    refine ⟨fun h7 => by unfold kidNames; rw [if_pos h7]; simp, Tr.nameds_mem.2 fun t ht => ?_⟩
    obtain ⟨p, hp, rfl⟩ := List.mem_map.1 ht
    obtain ⟨p1, p2, p3⟩ := kidsTo_mem hp
    exact ih (n - p) (by omega) p rfl p2
theorem tree_sub {N : Nat → Nd} {n k e : Nat} (h : GoodV N n) (hk : k < n) (he : IsEnd N n k e) : (tree N n k).flat ⟨#[]⟩ (-1) 0 = subTo N k e := by
  rw [flat_tree (good_pre h) (good_noNames h) (n - k) k rfl hk e he]
  simp [subTo]
theorem tree_cnt_le {N : Nat → Nd} {n k : Nat} (h : GoodV N n) (hk : k < n) : (tree N n k).cnt ≤ n := by
  obtain ⟨e, he⟩ := end_of (N := N) hk
  have := congrArg List.length (tree_sub h hk he)
  rw [Tr.flat_length, subTo_len] at this
  have := he.2.1
  omega

end Go.Proofs.YtjbjgkkkkghcgaaGreatDoor
namespace Go.Proofs.YtjbjgkkkkghcgaaGreatDoor
open Go.RowKit
set_option linter.unusedVariables false

/-- WHAT KeyOf ANSWERS. -/
def YTold (N : Nat → Nd) (n : Nat) (s : ByteArray) (q : Bool) : Prop := (q = true ∧ GoodV N n ∧ s = strL (tree N n 0).key) ∨ (q = false ∧ ¬ GoodV N n ∧ s = ⟨#[]⟩)
theorem YTold.same {N : Nat → Nd} {n : Nat} {s t : ByteArray} {q r : Bool} (h : YTold N n s q) (k : YTold N n t r) : s = t ∧ q = r := by
  rcases h with ⟨rfl, g, rfl⟩ | ⟨rfl, g, rfl⟩ <;> rcases k with ⟨rfl, g', rfl⟩ | ⟨rfl, g', rfl⟩
  · exact ⟨rfl, rfl⟩
  · exact absurd g g'
  · exact absurd g' g
  · exact ⟨rfl, rfl⟩
def KeyIs (N : Nat → Nd) (n : Nat) (w : World) (e : Ending) (w' : World) : Prop := ∃ s q, e = .returned (.tuple #[.string s, .bool q]) ∧ YTold N n s q ∧ Below w.heap.size w w'

theorem good_tok {N : Nat → Nd} {n : Nat} (h : GoodV N n) : TOK N n := tok_of_shape fun i hi => ⟨(h.1.2.2 i hi).1, (h.1.2.2 i hi).2.1⟩
theorem tree_sane {N : Nat → Nd} {n : Nat} (h : TOK N n) : ∀ d k, n - k = d → k < n → (tree N n k).sane := by
  intro d
  induction d using Nat.strongRecOn with
  | _ d ih =>
    intro k hd hk
    have k1 := h.kind k hk
    have n1 := h.num k hk
    rw [tree_eq hk, Tr.sane]
    refine ⟨by omega, by omega, fun _ => ⟨by omega, by omega⟩, Tr.sanes_mem.2 fun t ht => ?_⟩
    obtain ⟨p, hp, rfl⟩ := List.mem_map.1 ht
    obtain ⟨p1, p2, p3⟩ := kidsTo_mem hp
    exact ih (n - p) (by omega) p rfl p2
theorem good_key_len {N : Nat → Nd} {n : Nat} (h : GoodV N n) : (tree N n 0).key.length ≤ 2 ^ 20 := by
  have he : IsEnd N n 0 n := ⟨h.1.1, Nat.le_refl _, fun i h1 h2 => by have := (good_pre h).2 i h1 h2; omega, fun h => by omega⟩
  have := key_len (good_tok h) n 0 rfl h.1.1 n he
  have := h.1.2.1
  omega

set_option maxRecDepth 100000 in
set_option maxHeartbeats 1000000 in
theorem keyOfNodes_any (b off c n : Nat) (N : Nat → Nd) (w : World) (hn : n ≤ 80) (h0 : 0 < n) (hb : b < w.heap.size) (hat : NodesAt w b off n N) (ht : TOK N n) (hmk : Marks w) :
    Calls Tryz.prog 49 #[.slice (some ⟨b, off, none⟩) n c] w fun e w' => e = .returned (.string (strL (tree N n 0).key)) ∧ Below w.heap.size w w' := by
  have HN : Hid (KeySaid N n 0) := keyFrom_any N n hn ht n 0 rfl h0
  have HAT : Hid (NodesAt w b off n N) := hat
  have HMK : Hid (Marks w) := hmk
  clear hat hmk ht
  go_enter Tryz.func49, Tryz.ntmps49
  go_wp2_with fail
  refine (HN.out b off c _ hb HAT.out HMK.out).mono ?_
  rintro e w1 ⟨en, rfl, _, hb1⟩
  have HB1 : Hid (Below w.heap.size w w1) := hb1
  clear hb1
  go_wp2
  go_ret
  exact ⟨rfl, HB1.out⟩

end Go.Proofs.YtjbjgkkkkghcgaaGreatDoor
