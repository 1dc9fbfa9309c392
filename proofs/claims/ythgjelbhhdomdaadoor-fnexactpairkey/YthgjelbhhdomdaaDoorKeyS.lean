/- The key of a tree: the specification. -/
import Derived.Test.YthgjelbhhdomdaaDoorKeyP
import Derived.Test.YthgjelbhhdomdaaDoorTreeF
namespace Go.Proofs.YthgjelbhhdomdaaDoor
open Go.RowKit
set_option linter.unusedVariables false

mutual
/-- Kinds and numbers that a key can tell. -/
def Tr.sane : Tr → Prop
  | .mk k n _ _ ks => 0 ≤ k ∧ k < 256 ∧ (k = 4 → 0 ≤ n + 1000000000 ∧ n + 1000000000 < 4294967296) ∧ Tr.sanes ks
def Tr.sanes : List Tr → Prop
  | [] => True
  | t :: ts => t.sane ∧ Tr.sanes ts
end
theorem Tr.sanes_mem {l : List Tr} : Tr.sanes l ↔ ∀ t ∈ l, t.sane := by
  induction l with
  | nil => simp [Tr.sanes]
  | cons a l ih => rw [Tr.sanes, ih]; simp

def KeyTSaid (t : Tr) : Prop := ∀ (v : Value) (w : World), Tree w t v → t.named → t.sane → t.key.length ≤ 2 ^ 20 → t.cnt ≤ 2 ^ 20 →
    Calls Tryd.prog 40 #[v] w fun e w' => e = .returned (.string (strL t.key)) ∧ Below w.heap.size w w'

theorem conv_next (w : World) (o : Obj) (x : Int) : (convert 104 9 (.slice (some ⟨w.heap.size + 1, 0, none⟩) 1 1)).run Tryd.prog ((w.alloc o).alloc (.cells #[.int .u8 x] 5)) = .ok (.string (strL [kindB x])) ((w.alloc o).alloc (.cells #[.int .u8 x] 5)) := by
  have h := conv_one (w.alloc o) x
  rw [World.size_alloc] at h
  exact h
theorem conv_next4 (w : World) (o o' : Obj) (a b c d : Int) : (convert 104 9 (.slice (some ⟨w.heap.size + 1 + 1, 0, none⟩) 4 4)).run Tryd.prog (((w.alloc o).alloc o').alloc (.cells #[.int .u8 a, .int .u8 b, .int .u8 c, .int .u8 d] 5)) = .ok (.string (strOfNums [a, b, c, d])) (((w.alloc o).alloc o').alloc (.cells #[.int .u8 a, .int .u8 b, .int .u8 c, .int .u8 d] 5)) := by
  have h := conv_four ((w.alloc o).alloc o') a b c d
  rw [World.size_alloc, World.size_alloc] at h
  exact h
theorem four_size (a b c d : Int) : (strOfNums [a, b, c, d]).size = 4 := rfl
theorem num_four' (m : Nat) (hm : m < 4294967296) : strOfNums [(m : Int) / 16777216, (m : Int) / 65536 % 256, (m : Int) / 256 % 256, (m : Int) % 256] = strL (num4 ((m : Int) - 1000000000)) := by
  unfold strOfNums strL num4
  have e : ((m : Int) - 1000000000 + 1000000000).toNat = m := by omega
  have e0 : ((m : Int) / 16777216).toNat = m / 16777216 % 256 := by omega
  have e1 : ((m : Int) / 65536 % 256).toNat = m / 65536 % 256 := by omega
  have e2 : ((m : Int) / 256 % 256).toNat = m / 256 % 256 := by omega
  have e3 : ((m : Int) % 256).toNat = m % 256 := by omega
  simp only [List.map_cons, List.map_nil, e, e0, e1, e2, e3]
theorem strL_text (t : ByteArray) : t = strL t.data.toList := rfl
theorem strL_one (x : UInt8) : (strL [x]).size = 1 := rfl
theorem key_cat {L K : List UInt8} {t : ByteArray} : Value.string (strL L ++ (⟨#[2]⟩ ++ t ++ ⟨#[1]⟩) ++ strL K) = .string (strL (L ++ ((2 :: (t.data.toList ++ [1])) ++ K))) := by
  congr 1
  have e : (⟨#[2]⟩ : ByteArray) ++ t ++ ⟨#[1]⟩ = strL (2 :: (t.data.toList ++ [1])) := by
    show strL [2] ++ strL t.data.toList ++ strL [1] = _
    rw [strL_append, strL_append]
    rfl
  rw [e, strL_append, strL_append, List.append_assoc]
theorem kindB_one (k : Int) : strOfNums [k] = strL [kindB k] := rfl

set_option maxRecDepth 100000 in
set_option maxHeartbeats 4000000 in
theorem l2Key_step (k n : Int) (t : ByteArray) (nm : List ByteArray) (ks : List Tr) (ih : ∀ x ∈ ks, KeyTSaid x) : KeyTSaid (.mk k n t nm ks) := by
  intro v w h hnd hsn hkl hcn
  obtain ⟨an, cn, ak, ck, rfl, hnm, hk⟩ := h.open
  rw [Tr.named] at hnd
  rw [Tr.sane] at hsn
  rw [Tr.cnt] at hcn
  have hl1 := Tr.len_cnts ks
  have HN : Hid ((k = 7 → nm.length = ks.length) ∧ ∀ x ∈ ks, x.named) := ⟨hnd.1, Tr.nameds_mem.1 hnd.2⟩
  have HS : Hid (∀ x ∈ ks, x.sane) := Tr.sanes_mem.1 hsn.2.2.2
  have k0 := hsn.1
  have k1 := hsn.2.1
  have k4 := hsn.2.2.1
  have HIH : Hid (∀ x ∈ ks, KeyTSaid x) := ih
  have HNM : Hid (NamsAt w (fun _ => True) an nm) := hnm
  have HK : Hid (ks = [] ∨ ∃ g, ak = some ⟨g, 0, none⟩ ∧ g < w.heap.size ∧ ∀ i x, ks[i]? = some x → KidAt w (fun _ => True) x g i) := hk
  have HKL : Hid ((Tr.mk k n t nm ks).key.length ≤ 2 ^ 20) := hkl
  have HR : Hid ((Tr.mk k n t nm ks).key = kindB k :: (if k = 4 then num4 n else if k = 5 then t.data.toList ++ [1] else if k = 6 ∨ k = 7 then Tr.keys ks k nm 0 ++ [0] else [])) := by show _ = _; rw [Tr.key]
  have hcv := conv_next w
  have hs1 := strL_one
  clear ih hnm hk hnd hsn h hkl
  by_cases h4 : k = 4
  · rw [if_pos h4] at HR
    subst h4
    obtain ⟨m, hm⟩ := Int.eq_ofNat_of_zero_le (k4 rfl).1
    have hmb : m < 4294967296 := by have := (k4 rfl).2; omega
    obtain rfl : n = (m : Int) - 1000000000 := by omega
    clear k4 hm
    have hcv4 := conv_next4 w
    have hs4 := four_size
    have HF := num_four' m hmb
    have HF' : Hid (strOfNums [(m : Int) / 16777216, (m : Int) / 65536 % 256, (m : Int) / 256 % 256, (m : Int) % 256] = strL (num4 ((m : Int) - 1000000000))) := HF
    clear HF
    go_enter Tryd.func40, Tryd.ntmps40
    go_wp2_with fail
    go_ret
    refine ⟨?_, by go_grown⟩
    rw [HR.out]
    show Ending.returned (.string (strL [kindB 4] ++ strOfNums _)) = _
    rw [HF'.out, strL_append]
    rfl
  · by_cases h5 : k = 5
    · rw [if_neg h4, if_pos h5] at HR
      subst h5
      have htz : t.size ≤ 2 ^ 20 := by
        have := HKL.out
        rw [HR.out, List.length_cons, List.length_append, Array.length_toList] at this
        have e : t.data.size = t.size := rfl
        omega
      go_enter Tryd.func40, Tryd.ntmps40
      go_wp2_with fail
      go_ret
      refine ⟨?_, by go_grown⟩
      rw [HR.out]
      show Ending.returned (.string (strL [kindB 5] ++ t ++ strL [1])) = _
      rw [strL_text t, strL_append, strL_append]
      rfl
    · by_cases h67 : k = 6 ∨ k = 7
      · have e4 : (k == 4) = false := by simpa using h4
        have e5 : (k == 5) = false := by simpa using h5
        rw [if_neg h4, if_neg h5, if_pos h67] at HR
        rcases h67 with h6 | h6
        · subst h6
          go_enter Tryd.func40, Tryd.ntmps40
          go_wp2_with fail
          go_loopw [3, 48] (fun q i wr => ∃ (m : Nat) (L : List UInt8), m ≤ ks.length ∧ i = .int .i64 m ∧ q = .string (strL L) ∧ Hid (L = kindB 6 :: Tr.keys (ks.take m) 6 nm 0) ∧ (strL L).size ≤ 2 ^ 20 ∧ Below w.heap.size w wr ∧ w.heap.size < wr.heap.size ∧ wr.cell? ⟨w.heap.size, 0, none⟩ = some (.int .i64 6) ∧ wr.cell? ⟨w.heap.size, 3, none⟩ = some (.slice an nm.length cn)) (fun _ i _ => ks.length - (intOf i).toNat)
          case atStart => exact ⟨0, [kindB 6], Nat.zero_le _, rfl, rfl, by show _ = _; simp [Tr.keys], by rw [strL_size]; simp, by go_grown, by simp; omega, by simp [go_sem], by simp [go_sem]⟩
          case round =>
            obtain ⟨m, L, hm, rfl, rfl, HL, hsz, hnx, hzw, u0, u3⟩ := hrel
            by_cases hlt : m < ks.length
            · obtain ⟨x, hx⟩ : ∃ x, ks[m]? = some x := ⟨ks[m], List.getElem?_eq_getElem hlt⟩
              rcases HK.out with h0 | ⟨g, rfl, hg, hkid⟩
              · rw [h0] at hlt; simp at hlt
              obtain ⟨an', cn', ak', ck', c0, c1, c2, c3, c4, htr⟩ := ((hkid m x hx).keep (fun b' _ hl' => hnx.block b' hl') (fun _ _ _ => trivial) hnx.size (hnx.block g hg)).cells
              have hxm := List.mem_of_getElem? hx
              have HTR : Hid (Tree wr x (.agg #[.int .i64 x.kind, .int .i64 x.num, .string x.text, .slice an' x.names.length cn', .slice ak' x.kids.length ck'])) := htr
              have HXS : Hid (KeyTSaid x) := HIH.out x hxm
              have htk : ks.take (m + 1) = ks.take m ++ [x] := by rw [List.take_add_one, hx]; rfl
              have hst := Tr.keys_snoc (ks.take m) x 6 nm 0
              rw [← htk, Nat.zero_add, show (ks.take m).length = m by rw [List.length_take]; omega] at hst
              have hpre : (kindB 6 :: Tr.keys (ks.take (m + 1)) 6 nm 0).length ≤ 2 ^ 20 := by
                have h1 := HKL.out
                rw [HR.out] at h1
                have h2 := Tr.keys_append (ks.take (m + 1)) (ks.drop (m + 1)) 6 nm 0
                rw [List.take_append_drop] at h2
                rw [h2] at h1
                simp only [List.length_cons, List.length_append] at h1 ⊢
                omega
              have hcx : x.cnt ≤ 2 ^ 20 := by have := Tr.cnt_mem hxm; omega
              have j0 : (0 : Int) ≤ (m : Int) := by omega
              have j1 : (m : Int) < (ks.length : Int) := by omega
              have hgw : g < wr.heap.size := by omega
              have hpl := hpre
              rw [hst] at hpl
              have HXL : x.key.length ≤ 2 ^ 20 := by simp only [List.length_cons, List.length_append] at hpl; omega
              have HST : Hid (kindB 6 :: Tr.keys (ks.take (m + 1)) 6 nm 0 = L ++ ([] ++ x.key)) := by
                show _ = _
                rw [hst, HL.out]
                simp
              have hz2 : (strL x.key).size ≤ 2 ^ 20 := by rw [strL_size]; exact HXL
              clear hkid htr hst hpl htk hx
              go_wp2_with fail
              refine (HXS.out _ _ (HTR.out.below ((Below.refl _ _).alloc (Nat.le_refl _) _)) (HN.out.2 x hxm) (HS.out x hxm) HXL hcx).mono ?_
              rintro e w2 ⟨rfl, hb2⟩
              have B2 : Below wr.heap.size wr w2 := ((Below.refl _ _).alloc (Nat.le_refl _) _).trans (hb2.mono (by simp))
              have HB2 : Hid (Below w.heap.size w w2) := hnx.trans (B2.mono hnx.size)
              have p0 := (B2.cell (p := ⟨w.heap.size, 0, none⟩) hzw).trans u0
              have p3 := (B2.cell (p := ⟨w.heap.size, 3, none⟩) hzw).trans u3
              have zz2 : w.heap.size < w2.heap.size := Nat.lt_of_lt_of_le hzw B2.size
              clear hb2 B2 c0 c1 c2 c3 c4
              go_wp2_with fail
              go_roundw
              case rel => exact ⟨m + 1, kindB 6 :: Tr.keys (ks.take (m + 1)) 6 nm 0, by omega, by go_num, by rw [HST.out]; rw [List.nil_append, ← strL_append], rfl, by rw [strL_size]; exact hpre, HB2.out, zz2, p0, p3⟩
              case measure => simp [intOf]; omega
            · obtain rfl : m = ks.length := by omega
              rw [List.take_length] at HL
              go_wp2_with fail
              go_ret
              refine ⟨?_, hnx⟩
              show Ending.returned (.string (strL L ++ strL [0])) = _
              rw [HR.out, HL.out, strL_append]
              rfl
        · subst h6
          go_enter Tryd.func40, Tryd.ntmps40
          go_wp2_with fail
          go_loopw [3, 48] (fun q i wr => ∃ (m : Nat) (L : List UInt8), m ≤ ks.length ∧ i = .int .i64 m ∧ q = .string (strL L) ∧ Hid (L = kindB 7 :: Tr.keys (ks.take m) 7 nm 0) ∧ (strL L).size ≤ 2 ^ 20 ∧ Below w.heap.size w wr ∧ w.heap.size < wr.heap.size ∧ wr.cell? ⟨w.heap.size, 0, none⟩ = some (.int .i64 7) ∧ wr.cell? ⟨w.heap.size, 3, none⟩ = some (.slice an nm.length cn)) (fun _ i _ => ks.length - (intOf i).toNat)
          case atStart => exact ⟨0, [kindB 7], Nat.zero_le _, rfl, rfl, by show _ = _; simp [Tr.keys], by rw [strL_size]; simp, by go_grown, by simp; omega, by simp [go_sem], by simp [go_sem]⟩
          case round =>
            obtain ⟨m, L, hm, rfl, rfl, HL, hsz, hnx, hzw, u0, u3⟩ := hrel
            by_cases hlt : m < ks.length
            · obtain ⟨x, hx⟩ : ∃ x, ks[m]? = some x := ⟨ks[m], List.getElem?_eq_getElem hlt⟩
              rcases HK.out with h0 | ⟨g, rfl, hg, hkid⟩
              · rw [h0] at hlt; simp at hlt
              obtain ⟨an', cn', ak', ck', c0, c1, c2, c3, c4, htr⟩ := ((hkid m x hx).keep (fun b' _ hl' => hnx.block b' hl') (fun _ _ _ => trivial) hnx.size (hnx.block g hg)).cells
              have hxm := List.mem_of_getElem? hx
              have HTR : Hid (Tree wr x (.agg #[.int .i64 x.kind, .int .i64 x.num, .string x.text, .slice an' x.names.length cn', .slice ak' x.kids.length ck'])) := htr
              have HXS : Hid (KeyTSaid x) := HIH.out x hxm
              have htk : ks.take (m + 1) = ks.take m ++ [x] := by rw [List.take_add_one, hx]; rfl
              have hst := Tr.keys_snoc (ks.take m) x 7 nm 0
              rw [← htk, Nat.zero_add, show (ks.take m).length = m by rw [List.length_take]; omega] at hst
              have hpre : (kindB 7 :: Tr.keys (ks.take (m + 1)) 7 nm 0).length ≤ 2 ^ 20 := by
                have h1 := HKL.out
                rw [HR.out] at h1
                have h2 := Tr.keys_append (ks.take (m + 1)) (ks.drop (m + 1)) 7 nm 0
                rw [List.take_append_drop] at h2
                rw [h2] at h1
                simp only [List.length_cons, List.length_append] at h1 ⊢
                omega
              have hcx : x.cnt ≤ 2 ^ 20 := by have := Tr.cnt_mem hxm; omega
              have j0 : (0 : Int) ≤ (m : Int) := by omega
              have j1 : (m : Int) < (ks.length : Int) := by omega
              have hgw : g < wr.heap.size := by omega
              have hpl := hpre
              rw [hst] at hpl
              have hnl := HN.out.1 (by trivial)
              rcases HNM.out with h0 | ⟨gn, rfl, _, hgn, hnc⟩
              · rw [h0] at hnl; simp at hnl; omega
              have s1 : wr.cell? ⟨gn, m, none⟩ = some (.string (nm.getD m ByteArray.empty)) := (hnx.cell hgn).trans (hnc m (by omega))
              obtain ⟨nx, hnx1⟩ : ∃ nx, nx = nm.getD m ByteArray.empty := ⟨_, rfl⟩
              rw [← hnx1] at s1 hst hpl
              have j4 : (m : Int) < (nm.length : Int) := by omega
              have hgn' : gn < wr.heap.size := by omega
              have hnz : nx.size ≤ 2 ^ 20 := by
                have e : nx.data.toList.length = nx.size := by rw [Array.length_toList]; rfl
                simp only [if_pos, List.length_cons, List.length_append, e] at hpl
                omega
              have HXL : x.key.length ≤ 2 ^ 20 := by simp only [if_pos, List.length_cons, List.length_append] at hpl; omega
              have HST : Hid (kindB 7 :: Tr.keys (ks.take (m + 1)) 7 nm 0 = L ++ ((2 :: (nx.data.toList ++ [1])) ++ x.key)) := by
                show _ = _
                rw [hst, HL.out]
                simp
              have hz2 : (strL x.key).size ≤ 2 ^ 20 := by rw [strL_size]; exact HXL
              clear hkid htr hst hpl htk hx hnx1 hnc hnl
              go_wp2_with fail
              refine (HXS.out _ _ (HTR.out.below ((Below.refl _ _).alloc (Nat.le_refl _) _)) (HN.out.2 x hxm) (HS.out x hxm) HXL hcx).mono ?_
              rintro e w2 ⟨rfl, hb2⟩
              have B2 : Below wr.heap.size wr w2 := ((Below.refl _ _).alloc (Nat.le_refl _) _).trans (hb2.mono (by simp))
              have HB2 : Hid (Below w.heap.size w w2) := hnx.trans (B2.mono hnx.size)
              have p0 := (B2.cell (p := ⟨w.heap.size, 0, none⟩) hzw).trans u0
              have p3 := (B2.cell (p := ⟨w.heap.size, 3, none⟩) hzw).trans u3
              have zz2 : w.heap.size < w2.heap.size := Nat.lt_of_lt_of_le hzw B2.size
              clear hb2 B2 c0 c1 c2 c3 c4
              go_wp2_with fail
              go_roundw
              case rel => exact ⟨m + 1, kindB 7 :: Tr.keys (ks.take (m + 1)) 7 nm 0, by omega, by go_num, by rw [HST.out]; exact key_cat, rfl, by rw [strL_size]; exact hpre, HB2.out, zz2, p0, p3⟩
              case measure => simp [intOf]; omega
            · obtain rfl : m = ks.length := by omega
              rw [List.take_length] at HL
              go_wp2_with fail
              go_ret
              refine ⟨?_, hnx⟩
              show Ending.returned (.string (strL L ++ strL [0])) = _
              rw [HR.out, HL.out, strL_append]
              rfl
      · have e4 : (k == 4) = false := by simpa using h4
        have e5 : (k == 5) = false := by simpa using h5
        have e6 : (k == 6) = false := by rw [beq_eq_false_iff_ne]; exact fun h => h67 (.inl h)
        have e7 : (k == 7) = false := by rw [beq_eq_false_iff_ne]; exact fun h => h67 (.inr h)
        rw [if_neg h4, if_neg h5, if_neg h67] at HR
        go_enter Tryd.func40, Tryd.ntmps40
        go_wp2_with fail
        go_ret
        exact ⟨by rw [HR.out]; rfl, by go_grown⟩

theorem l2Key_any (t : Tr) : KeyTSaid t := Tr.ind (P := KeyTSaid) (fun k n t nm ks ih => l2Key_step k n t nm ks ih) t

end Go.Proofs.YthgjelbhhdomdaaDoor
