/- The specification's quoting of a text. -/
import Derived.Test.YtjbjgkkkkghcgaaGreatDoorDigits
import Derived.Test.YtjbjgkkkkghcgaaGreatDoorDeepest
namespace Go.Proofs.YtjbjgkkkkghcgaaGreatDoor
open Go.RowKit
set_option linter.unusedVariables false

theorem extract_one (s : ByteArray) (k : Nat) (h : k < s.size) : s.extract k (k + 1) = strL [s[k]] := by
  apply ByteArray.ext
  simp [strL]
  apply Array.ext'
  have h' : k < s.data.toList.length := by simpa using h
  simp
  rw [List.drop_eq_getElem_cons h']
  simp
  rfl

theorem byte_is (c : UInt8) (v : Nat) (hv : v < 256) : ((c.toNat : Int) == (v : Int)) = true ↔ c = UInt8.ofNat v := by
  rw [beq_iff_eq]
  constructor
  · intro h
    apply UInt8.toNat.inj
    rw [UInt8.toNat_ofNat']
    omega
  · intro h
    rw [h, UInt8.toNat_ofNat']
    omega

set_option maxRecDepth 100000 in
set_option maxHeartbeats 1000000 in
theorem l1Quote_any (s : ByteArray) (w : World) (hs : s.size ≤ 2 ^ 20) :
    Calls Tryz.prog 58 #[.string s] w fun e w' => e = .returned (.string (strL (quoteL s))) ∧ w' = w := by
  go_enter Tryz.func58, Tryz.ntmps58
  go_wp2
  go_loop [3, 4] (fun o i => ∃ k : Nat, k ≤ s.size ∧ i = .int .i64 k ∧ o = .string (qTo s k)) (fun _ i => s.size - (intOf i).toNat)
  case atStart => exact ⟨0, Nat.zero_le _, rfl, rfl⟩
  case round =>
    obtain ⟨k, hk, rfl, rfl⟩ := hrel
    have hz := qTo_size s k
    by_cases hlt : k < s.size
    · have HE : Hid (s.extract k (k + 1) = strL [s[k]]) := extract_one s k hlt
      have h1 := byte_is s[k] 34 (by omega)
      have h2 := byte_is s[k] 92 (by omega)
      by_cases c34 : ((s[k].toNat : Int) == 34) = true
      · have HQ : Hid (qTo s k ++ ⟨#[92]⟩ ++ strL [s[k]] = qTo s (k + 1)) := qTo_esc s k hlt (.inl (h1.1 c34))
        clear h1 h2
        go_wp2
        go_round
        case rel => exact ⟨k + 1, by omega, by go_num, by rw [HE.out, HQ.out]⟩
        case measure => simp [intOf]; omega
      · have c34b : ((s[k].toNat : Int) == 34) = false := by simpa using c34
        by_cases c92 : ((s[k].toNat : Int) == 92) = true
        · have HQ : Hid (qTo s k ++ ⟨#[92]⟩ ++ strL [s[k]] = qTo s (k + 1)) := qTo_esc s k hlt (.inr (h2.1 c92))
          clear h1 h2 c34
          go_wp2
          go_round
          case rel => exact ⟨k + 1, by omega, by go_num, by rw [HE.out, HQ.out]⟩
          case measure => simp [intOf]; omega
        · have c92b : ((s[k].toNat : Int) == 92) = false := by simpa using c92
          have HQ : Hid (qTo s k ++ strL [s[k]] = qTo s (k + 1)) := qTo_plain s k hlt (by rintro (h | h); exact c34 (h1.2 h); exact c92 (h2.2 h))
          clear h1 h2 c34 c92
          go_wp2
          go_round
          case rel => exact ⟨k + 1, by omega, by go_num, by rw [HE.out, HQ.out]⟩
          case measure => simp [intOf]; omega
    · go_wp2
      go_ret
      obtain rfl : k = s.size := by omega
      exact ⟨by rw [← qTo_end]; rfl, rfl⟩

/-- Whole numbers of the call's own, as cells. -/
def intCells (l : List Nat) : List Value := l.map fun (p : Nat) => Value.int .i64 (p : Int)
theorem intCells_snoc (l : List Nat) (p : Nat) : intCells (l ++ [p]) = intCells l ++ [.int .i64 (p : Int)] := by simp [intCells]
/-- An element appended to a row of the call's own: what was there stays. -/
theorem grow_below {B : Nat} {e : TypeId} {size n : Nat} {base W w1 : World} {v : Value} {xs : List Value} (hown : W.ownsRow B e size v n xs) (o : Obj) (hb : Below B base W) (hB : B ≤ W.heap.size) (hg : (W.alloc o).grownBy w1 v.ownBlock) : Below B base w1 :=
  (hb.alloc hB o).grown hg (by simp; omega) (fun k hk => (hown.lt k hk).1)
theorem one_news (W : World) (x : Value) (T : TypeId) : ∀ (j : Nat) (u : Value), [x][j]? = some u → (W.alloc (.cells #[x] T)).cell? ((⟨W.heap.size, 0, none⟩ : Addr).add j) = some u := by
  intro j u hj
  match j, hj with
  | 0, hj => simp at hj; subst hj; simp [Addr.add, World.cell?_alloc_new]
theorem one_cell_int (k : IntKind) (x : Int) : ∀ u : Value, u ∈ [Value.int k x] → u.oneCell' = true := by
  intro u hu
  simp at hu
  subst hu
  rfl

theorem kids_len (N : Nat → Nd) (k : Nat) : ∀ j, (kidsTo N k j).length ≤ j := by
  intro j
  induction j with
  | zero => simp [kidsTo]
  | succ j ih =>
    unfold kidsTo
    split
    · rw [List.length_append, List.length_singleton]; omega
    · omega

set_option maxRecDepth 100000 in
set_option maxHeartbeats 1000000 in
theorem l1Kids_any (a : Option Addr) (c n k : Nat) (N : Nat → Nd) (w : World) (hn : n ≤ 2 ^ 20) (hk : k < n) (h : ArgIs w a n N) :
    Calls Tryz.prog 42 #[.agg #[.slice a n c], .int .i64 k] w fun e w' => ∃ v, e = .returned v ∧ w'.ownsRow w.heap.size 3 1 v (kidsTo N k n).length (intCells (kidsTo N k n)) ∧ Below w.heap.size w w' := by
  have H : Hid (ArgIs w a n N) := h
  clear h
  obtain ⟨i0, hi, hz0, hz1, hz2⟩ := info_parts infoInt
  have HI0 : Hid (Tryz.prog.info? 3 = some i0 ∧ i0.zero = some (.int .i64 0) ∧ i0.size = 1 ∧ i0.bytes = 8) := ⟨hi, hz0, hz1, hz2⟩
  clear hi hz0 hz1 hz2
  go_enter Tryz.func42, Tryz.ntmps42
  go_wp2_with fail
  go_loopw [5, 6] (fun v i wr => ∃ j : Nat, k < j ∧ j ≤ n ∧ i = .int .i64 j ∧ wr.ownsRow (w.heap.size + 1) 3 1 v (kidsTo N k j).length (intCells (kidsTo N k j)) ∧ Below (w.heap.size + 1) (w.alloc (.cells #[.slice a n c] 60)) wr) (fun _ i _ => n - (intOf i).toNat)
  case atStart =>
    refine ⟨k + 1, by omega, by omega, by go_num, ?_, Below.refl _ _⟩
    have h0 : kidsTo N k (k + 1) = [] := by
      have := kidsTo_skip (N := N) (k := k) (a := 0) (k + 1) (fun i h1 h2 ⟨h3, _⟩ => by omega)
      rw [Nat.zero_add] at this
      exact this
    rw [h0]
    exact World.ownsRow_nil _ _ _ _
  case round =>
    obtain ⟨j, hj0, hj, rfl, hown, hnx⟩ := hrel
    have hbx : wr.cell? ⟨w.heap.size, 0, none⟩ = some (.slice a n c) := by rw [hnx.cell (by show w.heap.size < _; omega)]; simp [go_sem]
    have hww : w.heap.size < wr.heap.size := by have := hnx.size; simp at this; omega
    by_cases hlt : j < n
    · rcases H.out with h0 | ⟨b, off, rfl, hb, hat⟩
      · omega
      obtain ⟨a0, a1, a2, a3, a4⟩ := hat.below ((show Below w.heap.size w _ by go_grown).trans (hnx.mono (by omega))) hb j hlt
      have i1 : (0 : Int) ≤ (j : Int) := by omega
      have i2 : (j : Int) < (n : Int) := by omega
      have hbw : b < wr.heap.size := by omega
      clear hat
      by_cases hu : (N j).up = k
      · have hub : ((N j).up == (k : Int)) = true := by simpa using hu
        have HU : Hid ((N j).up = k) := hu
        have hkl := kids_len N k j
        clear hu
        go_wp2_with (first | (at_builtin; refine wpList_append_own _ rfl _ _ 54 rfl (w.heap.size + 1) 3 i0 (.int .i64 0) 1 8 Tryz.underlying54 HI0.out.1 HI0.out.2.1 HI0.out.2.2.1 HI0.out.2.2.2 rfl (by decide) _ _ _ rfl (hown.alloc _) ⟨wr.heap.size, 0, none⟩ 1 1 [.int .i64 (j : Int)] rfl rfl ?c1 ?c2 ?c3 ?c4 ?c5 ?_))
        case c1 => exact one_news _ _ _
        case c2 => exact one_cell_int _ _
        case c3 => unfold maxLen; omega
        case c4 => omega
        case c5 => simp; omega
        · intro v' w1 hown' hgrow _
          have HB : Hid (Below (w.heap.size + 1) (w.alloc (.cells #[.slice (some ⟨b, off, none⟩) n c] 60)) w1) := grow_below hown _ hnx (by omega) hgrow
          have HO : Hid (w1.ownsRow (w.heap.size + 1) 3 1 v' (kidsTo N k (j + 1)).length (intCells (kidsTo N k (j + 1)))) := by
            show World.ownsRow _ _ _ _ _ _ _
            rw [kidsTo, if_pos ⟨hj0, HU.out⟩, intCells_snoc, List.length_append]
            exact hown'
          clear hown hown' hgrow hnx hbx
          go_wp2
          go_roundw
          case rel => exact ⟨j + 1, by omega, by omega, by go_num, HO.out, HB.out⟩
          case measure => simp [intOf]; omega
      · have hub : ((N j).up == (k : Int)) = false := by simpa using hu
        have hks : kidsTo N k (j + 1) = kidsTo N k j := by rw [kidsTo, if_neg (fun h => hu h.2)]
        have HO : Hid (wr.ownsRow (w.heap.size + 1) 3 1 u5 (kidsTo N k (j + 1)).length (intCells (kidsTo N k (j + 1)))) := by
          show World.ownsRow _ _ _ _ _ _ _
          rw [hks]
          exact hown
        clear hks hown
        go_wp2
        go_roundw
        case rel => exact ⟨j + 1, by omega, by omega, by go_num, HO.out, hnx⟩
        case measure => simp [intOf]; omega
    · have HO : Hid (wr.ownsRow (w.heap.size + 1) 3 1 u5 (kidsTo N k j).length (intCells (kidsTo N k j))) := hown
      clear hown
      go_wp2
      go_ret
      obtain rfl : j = n := by omega
      refine ⟨_, rfl, ?_, (show Below w.heap.size w _ by go_grown).trans (hnx.mono (by omega))⟩
      obtain ⟨o1, o2⟩ := HO.out
      refine ⟨o1, ?_⟩
      rcases o2 with o2 | ⟨g, cap, cur, hv, hg, r⟩
      · exact .inl o2
      · exact .inr ⟨g, cap, cur, hv, by omega, r⟩

end Go.Proofs.YtjbjgkkkkghcgaaGreatDoor
