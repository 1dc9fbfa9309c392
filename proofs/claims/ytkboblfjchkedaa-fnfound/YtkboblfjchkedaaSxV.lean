/- What each ending has in common with the one ahead: the program's. No condition but that texts fit in memory. -/
import Derived.Test.YtkboblfjchkedaaSxO
import Derived.Deep.RegionWith
import Derived.BigRegion
namespace Go.Proofs.Ytkboblfjchkedaa
open Go.RowKit Go.Sort
set_option linter.unusedVariables false

/-- What the place i of a list has in common with the one ahead. -/
def comAt (t : List UInt8) (l : List Nat) (i : Nat) : Nat := if i = 0 then 0 else com (t.drop (l.getD (i - 1) 0)) (t.drop (l.getD i 0))
/-- That of all places. -/
def comL (t : List UInt8) (l : List Nat) : List Nat := (List.range l.length).map (comAt t l)
theorem comL_len (t : List UInt8) (l : List Nat) : (comL t l).length = l.length := by simp [comL]
theorem comAt_le (t : List UInt8) (l : List Nat) (i : Nat) : comAt t l i ≤ t.length := by
  unfold comAt
  split
  · omega
  · have := com_le1 (t.drop (l.getD (i - 1) 0)) (t.drop (l.getD i 0))
    rw [List.length_drop] at this
    omega
theorem nts_upto (f : Nat → Nat) (n p : Nat) : nts ((List.range n).map fun i => if i < p then f i else 0) = (List.range n).map fun i => if i < p then ((f i : Nat) : Int) else 0 := by
  simp only [nts, List.map_map]
  refine List.map_congr_left fun i _ => ?_
  simp only [Function.comp]
  split <;> rfl
theorem wrap_smallC {x : Int} (h1 : -1073741824 ≤ x) (h2 : x ≤ 1073741824) : IntKind.i64.wrap x = x := by
  simp [IntKind.wrap, IntKind.bits, IntKind.signed]
  omega
set_option maxRecDepth 100000 in
set_option maxHeartbeats 4000000 in
theorem commonWithAhead_k (s : ByteArray) (l : List Nat) (a : Option Addr) (n c : Nat) (S : Nat → Prop) (w : World) (h : (kRow kInt).is false w S [.slice a n c] (nts l)) (hs : s.size ≤ 120) (hl : ∀ x ∈ l, x ≤ s.size) (hn : n ≤ 2 ^ 20) :
    Calls Try.prog 32 #[.string s, .slice a n c] w fun e w' => ∃ a' n' c', e = .returned (.slice a' n' c') ∧ (kRow kInt).is true w' (fun k => w.heap.size ≤ k) [.slice a' n' c'] (nts (comL (tx s) l)) ∧ Below w.heap.size w w' := by
  have HN : Hid (n = l.length) := by have := row_len h; rw [nts_len] at this; exact this
  have HL : Hid (∀ x ∈ l, x ≤ s.size) := hl
  have hmk := makeIntS n (by omega)
  obtain ⟨W1, hW1⟩ : ∃ W1, W1 = w.alloc (.cells (madeCells #[.int .i64 0] n) 3) := ⟨_, rfl⟩
  obtain ⟨g, hg⟩ : ∃ g, g = w.heap.size := ⟨_, rfl⟩
  have HG0 : Hid (g = w.heap.size) := hg
  have HR1 : Hid ((kRow kInt).is true W1 (fun q => q = g) [.slice (some ⟨g, 0, none⟩) n n] ((List.range n).map fun i => if i < 1 then ((comAt (tx s) l i : Nat) : Int) else 0)) := by
    have hl' := heap_alloc_last w (.cells (madeCells #[.int .i64 0] n) 3)
    rw [← hW1, ← hg] at hl'
    have := made_row kInt_plain rfl (S := fun q => q = g) (n := n) hl' (show inC 0 = [.int .i64 0] from rfl) (by unfold IntOk; omega) rfl (by omega)
    have e : ((List.range n).map fun i => if i < 1 then ((comAt (tx s) l i : Nat) : Int) else 0) = List.replicate n 0 := by
      rw [← upto_none (fun _ => (0 : Int)) 0 n]
      refine List.map_congr_left fun i _ => ?_
      rw [if_neg (Nat.not_lt_zero i)]
      split
      · next c => rw [show i = 0 by omega]; simp [comAt]
      · rfl
    show (kRow kInt).is _ _ _ _ _
    rw [e]
    exact this
  have HB1 : Hid (Below w.heap.size w W1) := by show Below _ _ _; rw [hW1]; exact below_a1r _ _
  have HA1 : Hid ((kRow kInt).is false W1 (fun k => k < g) [.slice a n c] (nts l)) := Kd.below ((kRow kInt).tight h (fun k hk _ => by rw [hg]; exact hk)) HB1.out
  have z1 : g < W1.heap.size := by rw [hW1, hg]; simp
  clear h hl
  go_enter Try.func32, Try.ntmps32
  go_wp2_with fail
  rw [← hW1, ← hg]
  clear hmk hW1 hg
  go_loopw [6] (fun kv wr => ∃ p : Nat, 1 ≤ p ∧ (p ≤ n ∨ p = 1) ∧ kv = .int .i64 p ∧ Hid ((kRow kInt).is true wr (fun q => q = g) [.slice (some ⟨g, 0, none⟩) n n] ((List.range n).map fun i => if i < p then ((comAt (tx s) l i : Nat) : Int) else 0)) ∧ Hid (Below g W1 wr)) (fun kv _ => n - (intOf kv).toNat)
  case atStart => exact ⟨1, by omega, .inr rfl, rfl, HR1, Below.refl _ _⟩
  case round =>
    obtain ⟨p, hp1, hp, rfl, HR, HX⟩ := hrel
    by_cases hlt : p < n
    · obtain ⟨j, rfl⟩ : ∃ j, p = j + 1 := ⟨p - 1, by omega⟩
      have zr := HX.out.size
      have HAr : (kRow kInt).is false wr (fun k => k < g) [.slice a n c] (nts l) := (kRow kInt).keep HA1.out zr (fun q _ hq => HX.out.block q hq)
      obtain ⟨x, hx⟩ : ∃ x, l[j]? = some x := ⟨_, List.getElem?_eq_getElem (by rw [← HN.out]; omega)⟩
      obtain ⟨y, hy⟩ : ∃ y, l[j + 1]? = some y := ⟨_, List.getElem?_eq_getElem (by rw [← HN.out]; omega)⟩
      obtain ⟨b, o, rfl, hb, hbg, A1⟩ := rowI_at HAr (nts_at hx)
      obtain ⟨b', o', e', _, _, A2⟩ := rowI_at HAr (nts_at hy)
      obtain ⟨rfl, rfl⟩ : b = b' ∧ o = o' := by injection e' with e; injection e with e1 e2; exact ⟨e1, e2⟩
      have hxs : x ≤ s.size := HL.out x (List.mem_of_getElem? hx)
      have hys : y ≤ s.size := HL.out y (List.mem_of_getElem? hy)
      have HC : Hid (comAt (tx s) l (j + 1) = com (tx (s.extract x s.size)) (tx (s.extract y s.size))) := by
        show _ = _
        unfold comAt
        rw [if_neg (by omega), tx_end, tx_end, show j + 1 - 1 = j by omega, List.getD_eq_getElem?_getD, hx, List.getD_eq_getElem?_getD, hy]
        rfl
      have hcl : Hid (∀ W, Calls Try.prog 51 #[.string (s.extract x s.size), .string (s.extract y s.size)] W fun e w' => e = .returned (.int .i64 (comAt (tx s) l (j + 1) : Nat)) ∧ Below W.heap.size W w') := fun W => by
        have e1 : (s.extract x s.size).size ≤ s.size := by rw [ByteArray.size_extract]; omega
        have e2 : (s.extract y s.size).size ≤ s.size := by rw [ByteArray.size_extract]; omega
        rw [HC.out]
        exact commonBytes_k _ _ W (by omega) (by omega)
      have A0 : ∃ v, wr.cell? ⟨g, j + 1, none⟩ = some v ∧ wr.frozen? ⟨g, j + 1, none⟩ = false := by
        have hx : ((List.range n).map fun i => if i < j + 1 then ((comAt (tx s) l i : Nat) : Int) else 0)[j + 1]? = some 0 := by simp [hlt]
        have h1 := kInt_plain.cell HR.out hx (j := 0) rfl
        have h2 := kInt_plain.open HR.out hx (j := 0) rfl
        rw [show 0 + (j + 1) * kInt.wd + 0 = j + 1 by show 0 + (j + 1) * 1 + 0 = _; omega] at h1 h2
        exact ⟨_, h1, h2⟩
      obtain ⟨v0, A3, A4⟩ := A0
      have HPUT : Hid (∀ w2, Below wr.heap.size wr w2 → (kRow kInt).is true (w2.setCell ⟨g, j + 1, none⟩ (.int .i64 (comAt (tx s) l (j + 1) : Nat))) (fun q => q = g) [.slice (some ⟨g, 0, none⟩) n n] ((List.range n).map fun i => if i < j + 1 + 1 then ((comAt (tx s) l i : Nat) : Int) else 0)) := fun w2 hb2 => by
        have := kInt_plain.put1 rfl (Kd.below HR.out hb2) (i := j + 1) (x := ((comAt (tx s) l (j + 1) : Nat) : Int)) (v := .int .i64 (comAt (tx s) l (j + 1) : Nat)) (by simpa using hlt) rfl (by have := comAt_le (tx s) l (j + 1); rw [tx_len] at this; unfold IntOk; omega) (by simp; omega)
        rw [show 0 + (j + 1) = j + 1 by omega, set_upto (fun i => ((comAt (tx s) l i : Nat) : Int)) 0 n (j + 1) hlt] at this
        exact this
      obtain ⟨r, hr⟩ : ∃ r, r = comAt (tx s) l (j + 1) := ⟨_, rfl⟩
      rw [← hr] at hcl HPUT
      clear hr HC
      have k0 : (0 : Int) ≤ (j : Int) := by omega
      have k1 : ((j + 1 : Nat) : Int) < (n : Int) := by omega
      have k2 : (j : Int) < (n : Int) := by omega
      have k3 : ((j + 1 : Nat) : Int) - 1 = (j : Int) := by omega
      have k4 : (0 : Int) ≤ ((j + 1 : Nat) : Int) := by omega
      have k5 : (x : Int) ≤ (s.size : Int) := by omega
      have k6 : (y : Int) ≤ (s.size : Int) := by omega
      clear hx hy HAr
      have hgw : g < wr.heap.size := World.block_lt_of_cell? _ _ A3
      have q1 : IntKind.i64.wrap ((j : Int) + 1 - 1) = (j : Int) := by rw [show (j : Int) + 1 - 1 = (j : Int) by omega]; exact wrap_smallC (by omega) (by omega)
      have q2 : IntKind.i64.wrap (j : Int) = (j : Int) := wrap_smallC (by omega) (by omega)
      go_upto_region 5 with fail
      go_region_with (go_at_call 51; go_fit (hcl.out _); rintro e w2 ⟨rfl, hb2⟩; have B3 : w2.cell? ⟨g, j + 1, none⟩ = some v0 := (hb2.cell (p := ⟨g, j + 1, none⟩) hgw).trans A3; have B4 : w2.frozen? ⟨g, j + 1, none⟩ = false := (hb2.frozen (p := ⟨g, j + 1, none⟩) hgw).trans A4)
      all_goals (
        have hb3 : Below wr.heap.size wr w2 := ⟨hb2.os, hb2.tape, hb2.output, hb2.size, hb2.block⟩
        clear B3 B4 hb2
        go_wp2
        go_roundw
        case rel => exact ⟨j + 1 + 1, by omega, .inl (by omega), by go_num, HPUT.out w2 hb3, (HX.out.trans (hb3.mono (by omega))).setCell (p := ⟨g, j + 1, none⟩) (by show g ≤ g; omega) _⟩
        case measure => simp [intOf]; omega)
    · have k1 : ¬ (p : Int) < (n : Int) := by omega
      have HE : Hid ((kRow kInt).is true wr (fun q => q = g) [.slice (some ⟨g, 0, none⟩) n n] (nts (comL (tx s) l))) := by
        have e : ((List.range n).map fun i => if i < p then ((comAt (tx s) l i : Nat) : Int) else 0) = nts (comL (tx s) l) := by
          unfold comL nts
          rw [List.map_map, ← HN.out]
          refine List.map_congr_left fun i hi => ?_
          have : i < n := by simpa using hi
          rw [if_pos (by omega)]
          rfl
        show (kRow kInt).is _ _ _ _ _
        rw [← e]
        exact HR.out
      have HBW : Hid (Below w.heap.size w wr) := HB1.out.trans (HX.out.mono (by have := HG0.out; omega))
      go_wp2
      go_ret
      exact ⟨_, n, n, rfl, (kRow kInt).mono HE.out (fun k hk => by rw [hk, HG0.out]; exact Nat.le_refl _), HBW.out⟩
end Go.Proofs.Ytkboblfjchkedaa
