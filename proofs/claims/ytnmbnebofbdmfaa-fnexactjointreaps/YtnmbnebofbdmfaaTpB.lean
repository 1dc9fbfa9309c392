/- What a row of limbs is in memory, and how the law weighs, copies and compares it. No condition. -/
import Derived.Test.YtnmbnebofbdmfaaBase0
namespace Go.Proofs.Ytnmbnebofbdmfaa
open Go.RowKit
set_option linter.unusedVariables false

/-- A limb, as data. -/
structure Lb where
  key : ByteArray
  val : ByteArray
  left : Int
  right : Int

theorem cellsLimb : Try.prog.cellsOf 55 = 4 := by kernel_rfl

set_option maxHeartbeats 400000 in
theorem eqLimb_same (l r : Int) (t m : ByteArray) (w : World) :
    Calls Try.prog 34 #[.agg #[.string t, .string m, .int .i64 l, .int .i64 r], .agg #[.string t, .string m, .int .i64 l, .int .i64 r]] w fun e w' => e = .returned (.bool true) ∧ Below w.heap.size w w' := by
  go_enter Try.func34, Try.ntmps34
  go_wp2
  go_ret
  exact ⟨rfl, by go_grown⟩

/-- n limbs N lie in block b from offset off on. -/
def LimbsAt (w : World) (b off n : Nat) (N : Nat → Lb) : Prop :=
  ∀ i, i < n → w.cell? ⟨b, off + i * 4, none⟩ = some (.string (N i).key) ∧ w.cell? ⟨b, off + i * 4 + 1, none⟩ = some (.string (N i).val) ∧
    w.cell? ⟨b, off + i * 4 + 2, none⟩ = some (.int .i64 (N i).left) ∧ w.cell? ⟨b, off + i * 4 + 3, none⟩ = some (.int .i64 (N i).right)

theorem LimbsAt.below {w w' : World} {B b off n : Nat} {N : Nat → Lb} (h : LimbsAt w b off n N) (hb : Below B w w') (hB : b < B) : LimbsAt w' b off n N := fun i hi => by
  obtain ⟨h0, h1, h2, h3⟩ := h i hi
  exact ⟨(hb.cell hB).trans h0, (hb.cell hB).trans h1, (hb.cell hB).trans h2, (hb.cell hB).trans h3⟩
theorem LimbsAt.but {w w' : World} {B q b off n : Nat} {N : Nat → Lb} (h : LimbsAt w b off n N) (hb : BelowBut B q w w') (hB : b < B) (hne : b ≠ q) : LimbsAt w' b off n N := fun i hi => by
  obtain ⟨h0, h1, h2, h3⟩ := h i hi
  exact ⟨(hb.cell hB hne).trans h0, (hb.cell hB hne).trans h1, (hb.cell hB hne).trans h2, (hb.cell hB hne).trans h3⟩

/-- The slice value v is n limbs N, in blocks below B. -/
def RowIs (w : World) (B : Nat) (v : Value) (n : Nat) (N : Nat → Lb) : Prop :=
  ∃ a c, v = .slice a n c ∧ n ≤ 2 ^ 40 ∧ (n = 0 ∨ ∃ b off, a = some ⟨b, off, none⟩ ∧ b < B ∧ LimbsAt w b off n N)

theorem RowIs.below {w w' : World} {B B' : Nat} {v : Value} {n : Nat} {N : Nat → Lb} (h : RowIs w B v n N) (hb : Below B w w') (hB : B ≤ B') : RowIs w' B' v n N := by
  obtain ⟨a, c, rfl, hn, h0 | ⟨b, off, rfl, hlt, hat⟩⟩ := h
  · exact ⟨a, c, rfl, hn, .inl h0⟩
  · exact ⟨_, c, rfl, hn, .inr ⟨b, off, rfl, by omega, hat.below hb hlt⟩⟩

set_option maxHeartbeats 400000 in
theorem eqLimbS_some (b1 o1 c1 b2 o2 c2 n : Nat) (N : Nat → Lb) (w : World) (hn : n ≤ 2 ^ 40) (hb1 : b1 < w.heap.size) (hb2 : b2 < w.heap.size)
    (h1 : LimbsAt w b1 o1 n N) (h2 : LimbsAt w b2 o2 n N) :
    Calls Try.prog 19 #[.slice (some ⟨b1, o1, none⟩) n c1, .slice (some ⟨b2, o2, none⟩) n c2] w fun e w' => e = .returned (.bool true) ∧ Below w.heap.size w w' := by
  have H1 : Hid (LimbsAt w b1 o1 n N) := h1
  have H2 : Hid (LimbsAt w b2 o2 n N) := h2
  clear h1 h2
  go_enter Try.func19, Try.ntmps19
  go_wp2
  go_loopw [5] (fun i wr => ∃ k : Nat, k ≤ n ∧ i = .int .i64 k ∧ Below w.heap.size w wr) (fun i _ => n - (intOf i).toNat)
  case atStart => exact ⟨0, Nat.zero_le _, rfl, Below.refl _ _⟩
  case round =>
    obtain ⟨k, hk, rfl, hnx⟩ := hrel
    by_cases hlt : k < n
    · obtain ⟨a0, a1, a2, a3⟩ := (H1.out.below hnx hb1) k hlt
      obtain ⟨d0, d1, d2, d3⟩ := (H2.out.below hnx hb2) k hlt
      have i0 : (0 : Int) ≤ (k : Int) := by omega
      have i1 : (k : Int) < (n : Int) := by omega
      have q1 : b1 < wr.heap.size := Nat.lt_of_lt_of_le hb1 hnx.size
      have q2 : b2 < wr.heap.size := Nat.lt_of_lt_of_le hb2 hnx.size
      go_wp2_with fail
      go_region_held3 (fun w' => w'.cell? ⟨b1, o1 + k * 4, none⟩ = some (.string (N k).key) ∧ w'.cell? ⟨b1, o1 + k * 4 + 1, none⟩ = some (.string (N k).val) ∧ w'.cell? ⟨b1, o1 + k * 4 + 2, none⟩ = some (.int .i64 (N k).left) ∧ w'.cell? ⟨b1, o1 + k * 4 + 3, none⟩ = some (.int .i64 (N k).right) ∧ w'.cell? ⟨b2, o2 + k * 4, none⟩ = some (.string (N k).key) ∧ w'.cell? ⟨b2, o2 + k * 4 + 1, none⟩ = some (.string (N k).val) ∧ w'.cell? ⟨b2, o2 + k * 4 + 2, none⟩ = some (.int .i64 (N k).left) ∧ w'.cell? ⟨b2, o2 + k * 4 + 3, none⟩ = some (.int .i64 (N k).right)) (first | exact ⟨a0, a1, a2, a3, d0, d1, d2, d3⟩ | exact ⟨(hc' _ _ q1).trans a0, (hc' _ _ q1).trans a1, (hc' _ _ q1).trans a2, (hc' _ _ q1).trans a3, (hc' _ _ q2).trans d0, (hc' _ _ q2).trans d1, (hc' _ _ q2).trans d2, (hc' _ _ q2).trans d3⟩)
        (first | (go_at_call 34; refine (eqLimb_same _ _ _ _ _).mono ?_; rintro e w' ⟨rfl, hb'⟩; obtain ⟨hc', hf'⟩ := bcell hb'))
      go_wp2
      go_roundw
      case rel => exact ⟨k + 1, by omega, by go_num, (hnx.drew.trans (hb'.mono hnx.size))⟩
      case measure => simp [intOf]; omega
    · go_wp2
      go_ret
      exact ⟨rfl, hnx⟩

set_option maxHeartbeats 400000 in
theorem eqLimbS_none (a1 a2 : Option Addr) (c1 c2 : Nat) (w : World) :
    Calls Try.prog 19 #[.slice a1 0 c1, .slice a2 0 c2] w fun e w' => e = .returned (.bool true) ∧ Below w.heap.size w w' := by
  go_enter Try.func19, Try.ntmps19
  go_wp2
  go_rounds 1
  go_ret
  exact ⟨rfl, by go_grown⟩

theorem eqLimbS_any (v1 v2 : Value) (n : Nat) (N : Nat → Lb) (w : World) (h1 : RowIs w w.heap.size v1 n N) (h2 : RowIs w w.heap.size v2 n N) :
    Calls Try.prog 19 #[v1, v2] w fun e w' => e = .returned (.bool true) ∧ Below w.heap.size w w' := by
  obtain ⟨a1, c1, rfl, hn, h1⟩ := h1
  obtain ⟨a2, c2, rfl, _, h2⟩ := h2
  rcases h1 with rfl | ⟨b1, o1, rfl, q1, h1⟩
  · exact eqLimbS_none a1 a2 c1 c2 w
  · rcases h2 with rfl | ⟨b2, o2, rfl, q2, h2⟩
    · exact eqLimbS_none _ a2 c1 c2 w
    · exact eqLimbS_some b1 o1 c1 b2 o2 c2 n N w hn q1 q2 h1 h2

set_option maxHeartbeats 400000 in
theorem eqTreap_any (v1 v2 : Value) (n : Nat) (N : Nat → Lb) (w : World) (h1 : RowIs w w.heap.size v1 n N) (h2 : RowIs w w.heap.size v2 n N) :
    Calls Try.prog 8 #[.agg #[v1], .agg #[v2]] w fun e w' => e = .returned (.bool true) ∧ Below w.heap.size w w' := by
  obtain ⟨a1, c1, rfl, h1⟩ := h1
  obtain ⟨a2, c2, rfl, h2⟩ := h2
  have H1 : Hid (RowIs w w.heap.size (.slice a1 n c1) n N) := ⟨a1, c1, rfl, h1⟩
  have H2 : Hid (RowIs w w.heap.size (.slice a2 n c2) n N) := ⟨a2, c2, rfl, h2⟩
  clear h1 h2
  go_enter Try.func8, Try.ntmps8
  go_wp2_with fail
  refine (eqLimbS_any _ _ n N _ ?_ ?_).mono ?_
  · exact H1.out.below (by go_grown) (by simp; omega)
  · exact H2.out.below (by go_grown) (by simp; omega)
  rintro e w1 ⟨rfl, hb⟩
  go_wp2
  go_ret
  exact ⟨rfl, (show Below w.heap.size w _ by go_grown).trans (hb.mono (by simp; omega))⟩

/-- The limbs' cells may be written. -/
def LFree (w : World) (b off n : Nat) : Prop := ∀ o, o < n * 4 → w.frozen? ⟨b, off + o, none⟩ = false
theorem LFree.below {w w' : World} {B b off n : Nat} (h : LFree w b off n) (hb : Below B w w') (hB : b < B) : LFree w' b off n := fun o ho => (hb.frozen hB).trans (h o ho)
theorem LFree.but {w w' : World} {B q b off n : Nat} (h : LFree w b off n) (hb : BelowBut B q w w') (hB : b < B) (hne : b ≠ q) : LFree w' b off n := fun o ho => (hb.frozen hB hne).trans (h o ho)

/-- A row of limbs of one's own, alone in block b: none of them, or all. -/
def OwnR (w : World) (b : Nat) (v : Value) (n : Nat) (N : Nat → Lb) : Prop :=
  ∃ a c off, v = .slice a n c ∧ n ≤ 2 ^ 40 ∧ (n = 0 ∨ (a = some ⟨b, off, none⟩ ∧ b < w.heap.size ∧ LimbsAt w b off n N ∧ LFree w b off n))
theorem OwnR.form {w : World} {b n : Nat} {v : Value} {N : Nat → Lb} (h : OwnR w b v n N) : ∃ a c, v = .slice a n c := by
  obtain ⟨a, c, off, rfl, _⟩ := h
  exact ⟨a, c, rfl⟩
theorem OwnR.below {w w' : World} {b n : Nat} {v : Value} {N : Nat → Lb} (h : OwnR w b v n N) (hb : Below w.heap.size w w') : OwnR w' b v n N := by
  obtain ⟨a, c, off, rfl, hn, h0 | ⟨rfl, hlt, h1, h2⟩⟩ := h
  · exact ⟨a, c, off, rfl, hn, .inl h0⟩
  · exact ⟨_, c, off, rfl, hn, .inr ⟨rfl, Nat.lt_of_lt_of_le hlt hb.size, h1.below hb hlt, h2.below hb hlt⟩⟩
theorem OwnR.but {w w' : World} {b q n : Nat} {v : Value} {N : Nat → Lb} (h : OwnR w b v n N) (hb : BelowBut w.heap.size q w w') (hne : b ≠ q) : OwnR w' b v n N := by
  obtain ⟨a, c, off, rfl, hn, h0 | ⟨rfl, hlt, h1, h2⟩⟩ := h
  · exact ⟨a, c, off, rfl, hn, .inl h0⟩
  · exact ⟨_, c, off, rfl, hn, .inr ⟨rfl, Nat.lt_of_lt_of_le hlt hb.size, h1.but hb hlt hne, h2.but hb hlt hne⟩⟩
theorem OwnR.row {w : World} {b n : Nat} {v : Value} {N : Nat → Lb} (h : OwnR w b v n N) : RowIs w w.heap.size v n N := by
  obtain ⟨a, c, off, rfl, hn, h0 | ⟨rfl, hlt, h1, h2⟩⟩ := h
  · exact ⟨a, c, rfl, hn, .inl h0⟩
  · exact ⟨_, c, rfl, hn, .inr ⟨b, off, rfl, hlt, h1⟩⟩

set_option maxHeartbeats 400000 in
theorem szLimb_any (l r left : Int) (t m : ByteArray) (w : World) (h0 : 0 ≤ left) (h1 : left ≤ 2 ^ 20) (ht : t.size ≤ maxLen) (hm : m.size ≤ maxLen) :
    Calls Try.prog 22 #[.agg #[.string t, .string m, .int .i64 l, .int .i64 r], .int .i64 left] w fun e w' => ∃ r : Int, e = .returned (.int .i64 r) ∧ (r = -1 ∨ (0 ≤ r ∧ r ≤ left ∧ t.size ≤ 2 ^ 20 ∧ m.size ≤ 2 ^ 20)) ∧ Below w.heap.size w w' := by
  unfold maxLen at ht hm
  by_cases c0 : left - (t.size : Int) < 0
  · go_enter Try.func22, Try.ntmps22
    go_wp2
    go_ret
    exact ⟨-1, rfl, .inl rfl, by go_grown⟩
  · by_cases c1 : left - (t.size : Int) - (m.size : Int) < 0
    · go_enter Try.func22, Try.ntmps22
      go_wp2
      go_ret
      exact ⟨-1, rfl, .inl rfl, by go_grown⟩
    · go_enter Try.func22, Try.ntmps22
      go_wp2
      go_ret
      exact ⟨left - (t.size : Int) - (m.size : Int), rfl, .inr ⟨by omega, by omega, by omega, by omega⟩, by go_grown⟩

/-- The slice value that came in: n limbs N. -/
def ArgR (w : World) (a : Option Addr) (n : Nat) (N : Nat → Lb) : Prop := n = 0 ∨ ∃ b off, a = some ⟨b, off, none⟩ ∧ b < w.heap.size ∧ LimbsAt w b off n N

theorem ArgR.below {w w' : World} {a : Option Addr} {n : Nat} {N : Nat → Lb} (h : ArgR w a n N) (hb : Below w.heap.size w w') : ArgR w' a n N := by
  rcases h with h | ⟨b, off, rfl, hlt, hat⟩
  · exact .inl h
  · exact .inr ⟨b, off, rfl, Nat.lt_of_lt_of_le hlt hb.size, hat.below hb hlt⟩

/-- Its texts are small. -/
def SmallR (n : Nat) (N : Nat → Lb) : Prop := n ≤ 2 ^ 20 ∧ ∀ i, i < n → (N i).key.size ≤ 2 ^ 20 ∧ (N i).val.size ≤ 2 ^ 20

set_option maxHeartbeats 1000000 in
theorem szLimbS_any (a : Option Addr) (c n : Nat) (N : Nat → Lb) (w : World) (hn : n ≤ maxLen) (h : ArgR w a n N) (hz : ∀ i, i < n → (N i).key.size ≤ maxLen ∧ (N i).val.size ≤ maxLen) :
    Calls Try.prog 11 #[.slice a n c, .int .i64 1048576] w fun e w' => ∃ r : Int, e = .returned (.int .i64 r) ∧ (r = -1 ∨ (0 ≤ r ∧ SmallR n N)) ∧ Below w.heap.size w w' := by
  have HZ : Hid (∀ i, i < n → (N i).key.size ≤ maxLen ∧ (N i).val.size ≤ maxLen) := hz
  have H : Hid (ArgR w a n N) := h
  clear hz h
  unfold maxLen at hn
  by_cases c0 : (1048576 : Int) - (n : Int) < 0
  · go_enter Try.func11, Try.ntmps11
    go_wp2
    go_ret
    exact ⟨-1, rfl, .inl rfl, by go_grown⟩
  · go_enter Try.func11, Try.ntmps11
    go_wp2_with fail
    go_loopw [1, 5] (fun q i wr => ∃ (k : Nat) (r : Int), k ≤ n ∧ i = .int .i64 k ∧ q = .int .i64 r ∧ 0 ≤ r ∧ r ≤ 2 ^ 20 ∧ Hid (∀ j, j < k → (N j).key.size ≤ 2 ^ 20 ∧ (N j).val.size ≤ 2 ^ 20) ∧ Below w.heap.size w wr) (fun _ i _ => n - (intOf i).toNat)
    case atStart => exact ⟨0, _, Nat.zero_le _, rfl, rfl, by omega, by omega, fun j hj => by omega, Below.refl _ _⟩
    case round =>
      obtain ⟨k, r, hk, rfl, rfl, hr0, hr1, HJ, hnx⟩ := hrel
      by_cases hlt : k < n
      · rcases H.out with h0 | ⟨b, off, rfl, hb, hat⟩
        · omega
        obtain ⟨a0, a1, a2, a3⟩ := hat.below hnx hb k hlt
        have i0 : (0 : Int) ≤ (k : Int) := by omega
        have i1 : (k : Int) < (n : Int) := by omega
        obtain ⟨t0, t1⟩ := HZ.out k hlt
        clear hat
        go_wp2_with fail
        refine (szLimb_any _ _ _ _ _ _ hr0 hr1 t0 t1).mono ?_
        rintro e w1 ⟨q, rfl, hq, hb1⟩
        have HB : Hid (Below w.heap.size w w1) := hnx.trans (hb1.mono hnx.size)
        clear hb1
        rcases hq with rfl | ⟨q0, q1, q2, q3⟩
        · go_wp2
          go_ret
          exact ⟨-1, rfl, .inl rfl, HB.out⟩
        · have HJ' : Hid (∀ j, j < k + 1 → (N j).key.size ≤ 2 ^ 20 ∧ (N j).val.size ≤ 2 ^ 20) := fun j hj => by
            by_cases e : j = k
            · subst e; exact ⟨q2, q3⟩
            · exact HJ.out j (by omega)
          go_wp2
          go_roundw
          case rel => exact ⟨k + 1, q, by omega, by go_num, rfl, q0, by omega, HJ', HB.out⟩
          case measure => simp [intOf]; omega
      · go_wp2
        go_ret
        obtain rfl : k = n := by omega
        exact ⟨r, rfl, .inr ⟨hr0, by omega, HJ.out⟩, hnx⟩

set_option maxHeartbeats 400000 in
theorem szTreap_any (a : Option Addr) (c n : Nat) (N : Nat → Lb) (w : World) (hn : n ≤ maxLen) (h : ArgR w a n N) (hz : ∀ i, i < n → (N i).key.size ≤ maxLen ∧ (N i).val.size ≤ maxLen) :
    Calls Try.prog 4 #[.agg #[.slice a n c], .int .i64 1048576] w fun e w' => ∃ r : Int, e = .returned (.int .i64 r) ∧ (r = -1 ∨ (0 ≤ r ∧ SmallR n N)) ∧ Below w.heap.size w w' := by
  have HZ : Hid (∀ i, i < n → (N i).key.size ≤ maxLen ∧ (N i).val.size ≤ maxLen) := hz
  have H : Hid (ArgR w a n N) := h
  clear hz h
  go_enter Try.func4, Try.ntmps4
  go_wp2_with fail
  refine (szLimbS_any a c n N _ hn (H.out.below (by go_grown)) HZ.out).mono ?_
  rintro e w1 ⟨r, rfl, hr, hb⟩
  have HB : Hid (Below w.heap.size w w1) := (show Below w.heap.size w _ by go_grown).trans (hb.mono (by simp))
  clear hb
  rcases hr with rfl | ⟨r0, hs⟩
  · go_wp2
    go_ret
    exact ⟨-1, rfl, .inl rfl, HB.out⟩
  · have HS : Hid (SmallR n N) := hs
    clear hs
    have r1 : ¬ r < 0 := by omega
    go_wp2
    go_ret
    exact ⟨r, rfl, .inr ⟨r0, HS.out⟩, HB.out⟩

set_option maxHeartbeats 400000 in
theorem toLimb_any (l r : Int) (t m : ByteArray) (w : World) :
    Calls Try.prog 26 #[.agg #[.string t, .string m, .int .i64 l, .int .i64 r]] w fun e w' => e = .returned (.agg #[.string t, .string m, .int .i64 l, .int .i64 r]) ∧ Below w.heap.size w w' := by
  go_enter Try.func26, Try.ntmps26
  go_wp2
  exact bodyPost_ret (v := .agg #[.string t, .string m, .int .i64 l, .int .i64 r]) (by simp [results, Try.results26, go_sem]) rfl ⟨rfl, by go_grown⟩

theorem infoLimb : (Try.prog.info? 55).map (fun i => (i.zero, i.size, i.bytes)) = some (some (.agg #[.string ⟨#[]⟩, .string ⟨#[]⟩, .int .i64 0, .int .i64 0]), 4, 48) := by kernel_rfl

def zeroLs : Array Value := #[.string ⟨#[]⟩, .string ⟨#[]⟩, .int .i64 0, .int .i64 0]
def zeroLb : Lb := ⟨⟨#[]⟩, ⟨#[]⟩, 0, 0⟩

theorem make_limbs (n : Nat) (hn : n ≤ 2 ^ 30) (W : World) : (Instr.makeSlice 26 (.int .i64 (n : Int)) (.int .i64 (n : Int))).run Try.prog W = .ok (.slice (some ⟨W.heap.size, 0, none⟩) n n) (W.alloc (.cells (madeCells zeroLs (n * 4)) 55)) := by
  obtain ⟨i0, hi, hz0, hz1, hz2⟩ := info_parts infoLimb
  have h := run_make (P := Try.prog) W 26 55 i0 _ Try.underlying26 hi hz0 .i64 .i64 n n (by omega) (by omega) (by rw [hz2]; omega) (by omega)
  rw [hz1] at h
  simpa [Value.cells, zeroLs] using h

theorem madeL_get (n j : Nat) (hj : j < n * 4) : (madeCells zeroLs (n * 4))[j]? = zeroLs[j % 4]? := by
  have : zeroLs.size = 4 := rfl
  simp only [madeCells, Array.getElem?_map, Array.getElem?_range, if_pos hj, Option.map_some, this]
  rw [Array.getElem!_eq_getD, Array.getD_eq_getD_getElem?]
  have h5 : j % 4 < zeroLs.size := by rw [this]; omega
  rw [Array.getElem?_eq_getElem h5]
  rfl

theorem limbs_made (n : Nat) (W : World) (T : TypeId) : LimbsAt (W.alloc (.cells (madeCells zeroLs (n * 4)) T)) W.heap.size 0 n (fun _ => zeroLb) ∧ LFree (W.alloc (.cells (madeCells zeroLs (n * 4)) T)) W.heap.size 0 n := by
  refine ⟨fun i hi => ?_, fun o ho => World.frozen?_alloc_new _ _ _ _⟩
  simp only [World.cell?_alloc_new]
  refine ⟨?_, ?_, ?_, ?_⟩
  · rw [madeL_get _ _ (by omega), show (0 + i * 4) % 4 = 0 by omega]; rfl
  · rw [madeL_get _ _ (by omega), show (0 + i * 4 + 1) % 4 = 1 by omega]; rfl
  · rw [madeL_get _ _ (by omega), show (0 + i * 4 + 2) % 4 = 2 by omega]; rfl
  · rw [madeL_get _ _ (by omega), show (0 + i * 4 + 3) % 4 = 3 by omega]; rfl

/-- A whole limb stored. -/
theorem limb_step {w1 : World} {b off n k : Nat} {M : Nat → Lb} {x y : Int} {s t : ByteArray} (hk : k < n) (h : LimbsAt w1 b off n M) (hf : LFree w1 b off n) (W : World)
    (hW : W = (((w1.setCell ⟨b, off + k * 4, none⟩ (.string s)).setCell ⟨b, off + k * 4 + 1, none⟩ (.string t)).setCell ⟨b, off + k * 4 + 2, none⟩ (.int .i64 x)).setCell ⟨b, off + k * 4 + 3, none⟩ (.int .i64 y)) :
    LimbsAt W b off n (fun j => if j = k then ⟨s, t, x, y⟩ else M j) ∧ LFree W b off n ∧ BelowBut w1.heap.size b w1 W := by
  subst hW
  obtain ⟨a0, a1, a2, a3⟩ := h k hk
  have p3 : ∀ o, ((((w1.setCell ⟨b, off + k * 4, none⟩ (.string s)).setCell ⟨b, off + k * 4 + 1, none⟩ (.string t)).setCell ⟨b, off + k * 4 + 2, none⟩ (.int .i64 x)).setCell ⟨b, off + k * 4 + 3, none⟩ (.int .i64 y)).cell? ⟨b, o, none⟩ =
      if o = off + k * 4 + 3 then some (.int .i64 y) else if o = off + k * 4 + 2 then some (.int .i64 x) else if o = off + k * 4 + 1 then some (.string t) else if o = off + k * 4 then some (.string s) else w1.cell? ⟨b, o, none⟩ := fun o => by
    have e0 : (w1.cell? ⟨b, off + k * 4, none⟩).isSome = true := by rw [a0]; rfl
    have e1 : ((w1.setCell ⟨b, off + k * 4, none⟩ (.string s)).cell? ⟨b, off + k * 4 + 1, none⟩).isSome = true := by rw [cell_set e0, if_neg (by omega), a1]; rfl
    have e2 : (((w1.setCell ⟨b, off + k * 4, none⟩ (.string s)).setCell ⟨b, off + k * 4 + 1, none⟩ (.string t)).cell? ⟨b, off + k * 4 + 2, none⟩).isSome = true := by rw [cell_set e1, if_neg (by omega), cell_set e0, if_neg (by omega), a2]; rfl
    have e3 : ((((w1.setCell ⟨b, off + k * 4, none⟩ (.string s)).setCell ⟨b, off + k * 4 + 1, none⟩ (.string t)).setCell ⟨b, off + k * 4 + 2, none⟩ (.int .i64 x)).cell? ⟨b, off + k * 4 + 3, none⟩).isSome = true := by rw [cell_set e2, if_neg (by omega), cell_set e1, if_neg (by omega), cell_set e0, if_neg (by omega), a3]; rfl
    rw [cell_set e3, cell_set e2, cell_set e1, cell_set e0]
  refine ⟨fun j hj => ?_, fun o ho => ?_, ?_⟩
  · simp only [p3]
    by_cases e : j = k
    · subst e
      simp
    · obtain ⟨c0, c1, c2, c3⟩ := h j hj
      simp only [if_neg e]
      refine ⟨?_, ?_, ?_, ?_⟩
      · rw [if_neg (by omega), if_neg (by omega), if_neg (by omega), if_neg (by omega), c0]
      · rw [if_neg (by omega), if_neg (by omega), if_neg (by omega), if_neg (by omega), c1]
      · rw [if_neg (by omega), if_neg (by omega), if_neg (by omega), if_neg (by omega), c2]
      · rw [if_neg (by omega), if_neg (by omega), if_neg (by omega), if_neg (by omega), c3]
  · rw [World.frozen?_setCell, World.frozen?_setCell, World.frozen?_setCell, World.frozen?_setCell]
    exact hf o ho
  · exact (((BelowBut.setCell w1 _ _).trans (BelowBut.setCell _ _ _)).trans (BelowBut.setCell _ _ _)).trans (BelowBut.setCell _ _ _)

set_option maxHeartbeats 1000000 in
theorem toLimbS_any (a : Option Addr) (c n : Nat) (N : Nat → Lb) (w : World) (hn : n ≤ 2 ^ 20) (h : ArgR w a n N) :
    Calls Try.prog 14 #[.slice a n c] w fun e w' => ∃ v, e = .returned v ∧ OwnR w' w.heap.size v n N ∧ w.heap.size < w'.heap.size ∧ Below w.heap.size w w' := by
  have H : Hid (ArgR w a n N) := h
  clear h
  have hmk := make_limbs n (by omega)
  obtain ⟨n1, n2⟩ := limbs_made n w 55
  obtain ⟨W, hW⟩ : ∃ W, W = w.alloc (.cells (madeCells zeroLs (n * 4)) 55) := ⟨_, rfl⟩
  have hsz : W.heap.size = w.heap.size + 1 := by rw [hW]; simp
  have hbl : Below w.heap.size w W := by rw [hW]; go_grown
  rw [← hW] at n1 n2
  have hmw := hmk w
  rw [← hW] at hmw
  clear hmk
  have HN : Hid (LimbsAt W w.heap.size 0 n (fun _ => zeroLb) ∧ LFree W w.heap.size 0 n) := ⟨n1, n2⟩
  clear n1 n2 hW
  go_enter Try.func14, Try.ntmps14
  go_wp2_with fail
  go_loopw [4] (fun i wr => ∃ k : Nat, k ≤ n ∧ i = .int .i64 k ∧ Below w.heap.size w wr ∧ w.heap.size < wr.heap.size ∧ Hid (∃ M, LimbsAt wr w.heap.size 0 n M ∧ LFree wr w.heap.size 0 n ∧ ∀ j, j < k → M j = N j)) (fun i _ => n - (intOf i).toNat)
  case atStart => exact ⟨0, Nat.zero_le _, rfl, hbl, by omega, ⟨_, HN.out.1, HN.out.2, fun j hj => by omega⟩⟩
  case round =>
    obtain ⟨k, hk, rfl, hnx, hlt0, HM⟩ := hrel
    by_cases hlt : k < n
    · rcases H.out with h0 | ⟨b, off, rfl, hb, hat⟩
      · omega
      obtain ⟨a0, a1, a2, a3⟩ := hat.below hnx hb k hlt
      have i0 : (0 : Int) ≤ (k : Int) := by omega
      have i1 : (k : Int) < (n : Int) := by omega
      clear hat
      go_wp2_with fail
      refine (toLimb_any _ _ _ _ _).mono ?_
      rintro e w1 ⟨rfl, hb1⟩
      obtain ⟨M, m1, m2, m3⟩ := HM.out
      have m1' := m1.below hb1 hlt0
      have m2' := m2.below hb1 hlt0
      obtain ⟨g0, g1, g2, g3⟩ := m1' k hlt
      have f0 := m2' (k * 4) (by omega)
      have f1 := m2' (k * 4 + 1) (by omega)
      have f2 := m2' (k * 4 + 2) (by omega)
      have f3 := m2' (k * 4 + 3) (by omega)
      simp only [Nat.zero_add] at g0 g1 g2 g3 f0 f1 f2 f3
      have z1 := hb1.size
      have HM1 : Hid (LimbsAt w1 w.heap.size 0 n M ∧ LFree w1 w.heap.size 0 n ∧ (∀ j, j < k → M j = N j)) := ⟨m1', m2', m3⟩
      have HB : Hid (Below w.heap.size w w1) := hnx.trans (hb1.mono hnx.size)
      clear m1 m2 m3 m1' m2' hb1 HM a0 a1 a2 a3
      go_wp2_with fail
      obtain ⟨r1, r2, r3⟩ := limb_step (s := (N k).key) (t := (N k).val) (x := (N k).left) (y := (N k).right) hlt HM1.out.1 HM1.out.2.1 _ rfl
      simp only [Nat.zero_add] at r1 r2 r3
      go_roundw
      case rel =>
        refine ⟨k + 1, by omega, by go_num, HB.out.trans (r3.below HB.out.size (Nat.le_refl _)), by have := r3.size; omega, ⟨_, r1, r2, fun j hj => ?_⟩⟩
        by_cases e : j = k
        · subst e
          rw [if_pos rfl]
        · rw [if_neg e]
          exact HM1.out.2.2 j (by omega)
      case measure => simp [intOf]; omega
    · go_wp2
      go_ret
      obtain rfl : k = n := by omega
      obtain ⟨M, m1, m2, m3⟩ := HM.out
      refine ⟨_, rfl, ⟨_, k, 0, rfl, by omega, .inr ⟨rfl, hlt0, fun i hi => ?_, m2⟩⟩, hlt0, hnx⟩
      rw [← m3 i hi]
      exact m1 i hi

set_option maxHeartbeats 400000 in
theorem toTreap_any (a : Option Addr) (c n : Nat) (N : Nat → Lb) (w : World) (hn : n ≤ 2 ^ 20) (h : ArgR w a n N) :
    Calls Try.prog 6 #[.agg #[.slice a n c]] w fun e w' => ∃ b a' c', e = .returned (.agg #[.slice a' n c']) ∧ w.heap.size ≤ b ∧ b < w'.heap.size ∧ OwnR w' b (.slice a' n c') n N ∧ Below w.heap.size w w' := by
  have H : Hid (ArgR w a n N) := h
  clear h
  go_enter Try.func6, Try.ntmps6
  go_wp2_with fail
  refine (toLimbS_any a c n N _ hn (H.out.below (by go_grown))).mono ?_
  rintro e w1 ⟨v, rfl, ho, hlt, hb⟩
  obtain ⟨a1, c1, rfl⟩ := ho.form
  have x1 : w1.cell? ⟨w.heap.size + 1, 0, none⟩ = some (.slice none 0 0) := by rw [hb.cell (by simp)]; simp [go_sem]
  have x2 : w1.cell? ⟨w.heap.size + 1 + 1, 0, none⟩ = some (.slice none 0 0) := by rw [hb.cell (by simp)]; simp [go_sem]
  have f1 : w1.frozen? ⟨w.heap.size + 1, 0, none⟩ = false := by rw [hb.frozen (by simp)]; simp [go_sem]
  have f2 : w1.frozen? ⟨w.heap.size + 1 + 1, 0, none⟩ = false := by rw [hb.frozen (by simp)]; simp [go_sem]
  have z := hb.size
  simp at z hlt ho
  have z1 : w.heap.size + 1 < w1.heap.size := by omega
  have z2 : w.heap.size + 1 + 1 < w1.heap.size := by omega
  have HO : Hid (OwnR w1 (w.heap.size + 1 + 1 + 1) (.slice a1 n c1) n N) := ho
  have HB : Hid (Below w.heap.size w w1) := (show Below w.heap.size w _ by go_grown).trans (hb.mono (by simp; omega))
  clear ho hb
  go_wp2
  refine bodyPost_ret (v := .agg #[.slice a1 n c1]) (by simp [results, Try.results6, go_sem, x1]) rfl ⟨w.heap.size + 1 + 1 + 1, a1, c1, rfl, by omega, by simp; omega, ?_, ?_⟩
  · exact (HO.out.but (BelowBut.setCell _ _ _) (by omega)).but (BelowBut.setCell _ _ _) (by omega)
  · exact (HB.out.setCell (by simp; omega) _).setCell (by simp) _

end Go.Proofs.Ytnmbnebofbdmfaa
