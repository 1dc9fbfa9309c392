/- Bytes read as postings: the program's. No condition. -/
import Derived.Test.YtcnlmpdpimhcbaaUpM
import Derived.Test.YtcnlmpdpimhcbaaPoI
namespace Go.Proofs.Ytcnlmpdpimhcbaa
open Go.RowKit
set_option linter.unusedVariables false

theorem strL_ext (l : List UInt8) (a : Nat) : (strL l).extract a (strL l).size = strL (l.drop a) := by
  apply ByteArray.ext
  simp [strL, ByteArray.size]
  rw [List.take_of_length_le (by simp)]
theorem get0 (b : UInt8) (t : List UInt8) (h : 0 < (strL (b :: t)).size) : (strL (b :: t))[0] = b := rfl
theorem get1 (b c : UInt8) (t : List UInt8) (h : 1 < (strL (b :: c :: t)).size) : (strL (b :: c :: t))[1] = c := rfl

theorem below_dn (w : World) (n : Nat) : Below w.heap.size w (w.drewN n) := ⟨rfl, rfl, rfl, Nat.le_refl _, fun _ _ => rfl⟩

/-- What is read at the front: a number as it must be written, and what stands behind; or none. -/
def RdIs (l : List UInt8) (e : Ending) : Prop := (∃ a r, rd2 l = some (a, r) ∧ e = .returned (.tuple #[.int .i64 a, .string (strL r), .bool true])) ∨ (rd2 l = none ∧ ∃ (a : Int) (r : List UInt8), r.length ≤ l.length ∧ e = .returned (.tuple #[.int .i64 a, .string (strL r), .bool false]))

set_option maxRecDepth 100000 in
set_option maxHeartbeats 2000000 in
theorem readSevens_k (l : List UInt8) (w : World) (hl : l.length ≤ 2 ^ 20) : Calls Try.prog 66 #[.string (strL l)] w fun e w' => RdIs l e ∧ Below w.heap.size w w' := by
  match l, hl with
  | [], _ =>
    have z0 : (strL []).size = 0 := rfl
    go_enter Try.func66, Try.ntmps66
    go_wp2
    go_rounds 1
    refine bodyPost_ret (v := .tuple #[.int .i64 0, .string ⟨#[]⟩, .bool false]) (by simp [results, Try.results66, go_sem]) rfl ?_
    exact ⟨.inr ⟨rfl, 0, [], by simp, rfl⟩, by go_grown⟩
  | [b], hl =>
    have hb8 : (b.toNat : Int) < 256 := by have := UInt8.toNat_lt b; omega
    have z0 : (strL [b]).size = 1 := rfl
    have hg := get0 b [] (by rw [z0]; omega)
    have htm : (b.toNat : Int).tmod 128 = (b.toNat : Int) % 128 := Int.tmod_eq_emod_of_nonneg (by omega)
    have he := strL_ext [b] 1
    rw [z0] at he
    by_cases hb : (b.toNat : Int) < 128
    · have hm : (b.toNat : Int) % 128 = (b.toNat : Int) := by omega
      rw [hm] at htm
      have hr : rd2 [b] = some ((b.toNat : Int), []) := by
        simp only [rd2.eq_def]
        rw [if_pos (by omega)]
      have HR : Hid (rd2 [b] = some ((b.toNat : Int), [])) := hr
      clear hr hm
      go_enter Try.func66, Try.ntmps66
      go_wp2
      go_rounds 2
      go_big_quiet (fail)
      go_wp2
      refine bodyPost_ret (v := .tuple #[.int .i64 (b.toNat : Int), .string ByteArray.empty, .bool true]) (by simp [results, Try.results66, go_sem]) rfl ?_
      exact ⟨.inl ⟨_, _, HR.out, rfl⟩, below_dn _ _⟩
    · have hr : rd2 [b] = none := by
        simp only [rd2.eq_def]
        rw [if_neg (by omega)]
      have HR : Hid (rd2 [b] = none) := hr
      have r0 : 0 ≤ (b.toNat : Int) % 128 := by omega
      have r1 : (b.toNat : Int) % 128 < 128 := by omega
      clear hr
      go_enter Try.func66, Try.ntmps66
      go_wp2
      go_rounds 2
      refine bodyPost_ret (v := .tuple #[.int .i64 0, .string ⟨#[]⟩, .bool false]) (by simp [results, Try.results66, go_sem]) rfl ?_
      exact ⟨.inr ⟨HR.out, 0, [], by simp, rfl⟩, by go_grown⟩
  | b :: c :: [], hl =>
    have hb8 : (b.toNat : Int) < 256 := by have := UInt8.toNat_lt b; omega
    have hc8 : (c.toNat : Int) < 256 := by have := UInt8.toNat_lt c; omega
    have z0 : (strL (b :: c :: [])).size = 2 := by rw [strL_size]; rfl
    have hg := get0 b (c :: []) (by omega)
    have hg1 := get1 b c [] (by omega)
    have htm : (b.toNat : Int).tmod 128 = (b.toNat : Int) % 128 := Int.tmod_eq_emod_of_nonneg (by omega)
    have htc : (c.toNat : Int).tmod 128 = (c.toNat : Int) % 128 := Int.tmod_eq_emod_of_nonneg (by omega)
    have he := strL_ext (b :: c :: []) 1
    have he2 := strL_ext (b :: c :: []) 2
    rw [List.drop_succ_cons, List.drop_zero, z0] at he
    rw [List.drop_succ_cons, List.drop_succ_cons, List.drop_zero, z0] at he2
    by_cases hb : (b.toNat : Int) < 128
    · have hm : (b.toNat : Int) % 128 = (b.toNat : Int) := by omega
      rw [hm] at htm
      have hr : rd2 (b :: c :: []) = some ((b.toNat : Int), c :: []) := by
        simp only [rd2.eq_def]
        rw [if_pos (by omega)]
      have HR : Hid (rd2 (b :: c :: []) = some ((b.toNat : Int), c :: [])) := hr
      clear hr hm he2 hg1 htc
      go_enter Try.func66, Try.ntmps66
      go_wp2
      go_rounds 3
      go_big_quiet (fail)
      go_wp2
      refine bodyPost_ret (v := .tuple #[.int .i64 (b.toNat : Int), .string (strL (c :: [])), .bool true]) (by simp [results, Try.results66, go_sem]) rfl ?_
      exact ⟨.inl ⟨_, _, HR.out, rfl⟩, below_dn _ _⟩
    · have r0 : 0 ≤ (b.toNat : Int) % 128 := by omega
      have r1 : (b.toNat : Int) % 128 < 128 := by omega
      obtain ⟨r, hr⟩ : ∃ r, r = (b.toNat : Int) % 128 := ⟨_, rfl⟩
      rw [← hr] at htm r0 r1
      by_cases hc : (c.toNat : Int) < 128
      · have hm : (c.toNat : Int) % 128 = (c.toNat : Int) := by omega
        rw [hm] at htc
        by_cases hc0 : 0 < (c.toNat : Int)
        · have HR : Hid (rd2 (b :: c :: []) = some (r + (c.toNat : Int) * 128, [])) := by
            show _ = _
            simp only [rd2.eq_def]
            rw [if_neg (by omega), if_pos (by omega), hr]
          clear hr hm he
          go_enter Try.func66, Try.ntmps66
          go_wp2
          go_rounds 3
          go_big_quiet (fail)
          go_wp2
          refine bodyPost_ret (v := .tuple #[.int .i64 (r + (c.toNat : Int) * 128), .string ByteArray.empty, .bool true]) (by simp [results, Try.results66, go_sem]; omega) rfl ?_
          exact ⟨.inl ⟨_, _, HR.out, rfl⟩, below_dn _ _⟩
        · have HR : Hid (rd2 (b :: c :: []) = none) := by
            show _ = _
            simp only [rd2.eq_def]
            rw [if_neg (by omega), if_neg (by omega)]
          have hcz : (c.toNat : Int) = 0 := by omega
          have hcd : decide (0 < (c.toNat : Int)) = false := by simp; omega
          clear hr hm he
          go_enter Try.func66, Try.ntmps66
          go_wp2
          go_rounds 3
          go_big_quiet (fail)
          go_wp2
          refine bodyPost_ret (v := .tuple #[.int .i64 r, .string ByteArray.empty, .bool false]) (by simp [results, Try.results66, go_sem]) rfl ?_
          exact ⟨.inr ⟨HR.out, _, [], by simp; try omega, rfl⟩, below_dn _ _⟩
      · have HR : Hid (rd2 (b :: c :: []) = none) := by
          show _ = _
          simp only [rd2.eq_def]
          rw [if_neg (by omega), if_neg (by omega)]
        have s0 : 0 ≤ (c.toNat : Int) % 128 := by omega
        have s1 : (c.toNat : Int) % 128 < 128 := by omega
        obtain ⟨s, hs⟩ : ∃ s, s = (c.toNat : Int) % 128 := ⟨_, rfl⟩
        rw [← hs] at htc s0 s1
        clear hr hs he he2
        go_enter Try.func66, Try.ntmps66
        go_wp2
        go_rounds 3
        refine bodyPost_ret (v := .tuple #[.int .i64 0, .string ⟨#[]⟩, .bool false]) (by simp [results, Try.results66, go_sem]) rfl ?_
        exact ⟨.inr ⟨HR.out, 0, [], by simp, rfl⟩, by go_grown⟩
  | b :: c :: d :: v, hl =>
    have hb8 : (b.toNat : Int) < 256 := by have := UInt8.toNat_lt b; omega
    have hc8 : (c.toNat : Int) < 256 := by have := UInt8.toNat_lt c; omega
    have z0 : (strL (b :: c :: (d :: v))).size = v.length + 3 := by rw [strL_size]; rfl
    have hl2 : v.length + 3 ≤ 2 ^ 20 := by simpa using hl
    have hg := get0 b (c :: (d :: v)) (by omega)
    have hg1 := get1 b c (d :: v) (by omega)
    have htm : (b.toNat : Int).tmod 128 = (b.toNat : Int) % 128 := Int.tmod_eq_emod_of_nonneg (by omega)
    have htc : (c.toNat : Int).tmod 128 = (c.toNat : Int) % 128 := Int.tmod_eq_emod_of_nonneg (by omega)
    have he := strL_ext (b :: c :: (d :: v)) 1
    have he2 := strL_ext (b :: c :: (d :: v)) 2
    rw [List.drop_succ_cons, List.drop_zero, z0] at he
    rw [List.drop_succ_cons, List.drop_succ_cons, List.drop_zero, z0] at he2
    by_cases hb : (b.toNat : Int) < 128
    · have hm : (b.toNat : Int) % 128 = (b.toNat : Int) := by omega
      rw [hm] at htm
      have hr : rd2 (b :: c :: (d :: v)) = some ((b.toNat : Int), c :: (d :: v)) := by
        simp only [rd2.eq_def]
        rw [if_pos (by omega)]
      have HR : Hid (rd2 (b :: c :: (d :: v)) = some ((b.toNat : Int), c :: (d :: v))) := hr
      clear hr hm he2 hg1 htc
      go_enter Try.func66, Try.ntmps66
      go_wp2
      go_rounds 3
      go_big_quiet (fail)
      go_wp2
      refine bodyPost_ret (v := .tuple #[.int .i64 (b.toNat : Int), .string (strL (c :: (d :: v))), .bool true]) (by simp [results, Try.results66, go_sem]) rfl ?_
      exact ⟨.inl ⟨_, _, HR.out, rfl⟩, below_dn _ _⟩
    · have r0 : 0 ≤ (b.toNat : Int) % 128 := by omega
      have r1 : (b.toNat : Int) % 128 < 128 := by omega
      obtain ⟨r, hr⟩ : ∃ r, r = (b.toNat : Int) % 128 := ⟨_, rfl⟩
      rw [← hr] at htm r0 r1
      by_cases hc : (c.toNat : Int) < 128
      · have hm : (c.toNat : Int) % 128 = (c.toNat : Int) := by omega
        rw [hm] at htc
        by_cases hc0 : 0 < (c.toNat : Int)
        · have HR : Hid (rd2 (b :: c :: (d :: v)) = some (r + (c.toNat : Int) * 128, (d :: v))) := by
            show _ = _
            simp only [rd2.eq_def]
            rw [if_neg (by omega), if_pos (by omega), hr]
          clear hr hm he
          go_enter Try.func66, Try.ntmps66
          go_wp2
          go_rounds 3
          go_big_quiet (fail)
          go_wp2
          refine bodyPost_ret (v := .tuple #[.int .i64 (r + (c.toNat : Int) * 128), .string (strL (d :: v)), .bool true]) (by simp [results, Try.results66, go_sem]; omega) rfl ?_
          exact ⟨.inl ⟨_, _, HR.out, rfl⟩, below_dn _ _⟩
        · have HR : Hid (rd2 (b :: c :: (d :: v)) = none) := by
            show _ = _
            simp only [rd2.eq_def]
            rw [if_neg (by omega), if_neg (by omega)]
          have hcz : (c.toNat : Int) = 0 := by omega
          have hcd : decide (0 < (c.toNat : Int)) = false := by simp; omega
          clear hr hm he
          go_enter Try.func66, Try.ntmps66
          go_wp2
          go_rounds 3
          go_big_quiet (fail)
          go_wp2
          refine bodyPost_ret (v := .tuple #[.int .i64 r, .string (strL (d :: v)), .bool false]) (by simp [results, Try.results66, go_sem]) rfl ?_
          exact ⟨.inr ⟨HR.out, _, (d :: v), by simp; try omega, rfl⟩, below_dn _ _⟩
      · have HR : Hid (rd2 (b :: c :: (d :: v)) = none) := by
          show _ = _
          simp only [rd2.eq_def]
          rw [if_neg (by omega), if_neg (by omega)]
        have s0 : 0 ≤ (c.toNat : Int) % 128 := by omega
        have s1 : (c.toNat : Int) % 128 < 128 := by omega
        obtain ⟨s, hs⟩ : ∃ s, s = (c.toNat : Int) % 128 := ⟨_, rfl⟩
        rw [← hs] at htc s0 s1
        clear hr hs he he2
        go_enter Try.func66, Try.ntmps66
        go_wp2
        go_rounds 3
        refine bodyPost_ret (v := .tuple #[.int .i64 0, .string ⟨#[]⟩, .bool false]) (by simp [results, Try.results66, go_sem]) rfl ?_
        exact ⟨.inr ⟨HR.out, 0, [], by simp, rfl⟩, by go_grown⟩
end Go.Proofs.Ytcnlmpdpimhcbaa
