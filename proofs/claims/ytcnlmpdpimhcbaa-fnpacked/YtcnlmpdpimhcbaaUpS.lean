/- Bytes read as postings: the specification's. No condition. -/
import Derived.Test.YtcnlmpdpimhcbaaUpJ
namespace Go.Proofs.Ytcnlmpdpimhcbaa
open Go.RowKit
set_option linter.unusedVariables false

theorem or64_nat (a b : Nat) (ha : a < 2 ^ 40) (hb : b < 2 ^ 40) : bits BinOp.or IntKind.i64 (a : Int) (b : Int) = ((a ||| b : Nat) : Int) := by
  have hx : a ||| b < 2 ^ 40 := Nat.or_lt_two_pow ha hb
  show IntKind.i64.wrap ((BitVec.ofInt 64 (a : Int) ||| BitVec.ofInt 64 (b : Int)).toNat : Int) = _
  rw [BitVec.toNat_or, ofInt_u64 a (by omega), ofInt_u64 b (by omega)]
  simp [IntKind.wrap, IntKind.bits, IntKind.signed]
  omega
theorem or_add (x y : Int) (k : Nat) (hk : k ≤ 20) (x0 : 0 ≤ x) (x1 : x < 2 ^ k) (y0 : 0 ≤ y) (y1 : y < 128) : bits BinOp.or IntKind.i64 x (y * 2 ^ k) = x + y * 2 ^ k := by
  obtain ⟨a, rfl⟩ : ∃ a : Nat, x = (a : Int) := ⟨x.toNat, by omega⟩
  obtain ⟨b, rfl⟩ : ∃ b : Nat, y = (b : Int) := ⟨y.toNat, by omega⟩
  have ha : a < 2 ^ k := by exact_mod_cast x1
  have hp : 2 ^ k ≤ 2 ^ 20 := Nat.pow_le_pow_right (by decide) hk
  have hb : b * 2 ^ k < 2 ^ 40 := by
    have := Nat.mul_le_mul (show b ≤ 128 by omega) hp
    omega
  have e : ((b : Int) * 2 ^ k) = ((b * 2 ^ k : Nat) : Int) := by push_cast; rfl
  rw [e, or64_nat a (b * 2 ^ k) (by omega) hb, Nat.mul_comm b, Nat.or_comm, ← Nat.two_pow_add_eq_or_of_lt ha]
  push_cast
  omega
theorem and8 (x : Int) (h0 : 0 ≤ x) (h1 : x < 256) : bits BinOp.and IntKind.u8 x 127 = x % 128 := by
  rw [u8_and x 127 h0 h1 (by decide) (by decide)]
  obtain ⟨m, rfl⟩ : ∃ m : Nat, x = (m : Int) := ⟨x.toNat, by omega⟩
  rw [Int.toNat_natCast, show (127 : Int).toNat = 2 ^ 7 - 1 by rfl, Nat.and_two_pow_sub_one_eq_mod]
  omega
theorem get2 (b c d : UInt8) (t : List UInt8) (h : 2 < (strL (b :: c :: d :: t)).size) : (strL (b :: c :: d :: t))[2] = d := rfl

/-- What l10Take answers. -/
def TkIs (l : List UInt8) (e : Ending) : Prop := (∃ a n, tk3 l = some (a, n) ∧ e = .returned (.tuple #[.int .i64 a, .int .i64 (n : Int)])) ∨ (tk3 l = none ∧ e = .returned (.tuple #[.int .i64 0, .int .i64 0]))

set_option maxRecDepth 100000 in
set_option maxHeartbeats 2000000 in
theorem l10Take_k (l : List UInt8) (w : World) (hl : l.length ≤ 2 ^ 20) : Calls Try.prog 69 #[.string (strL l)] w fun e w' => TkIs l e ∧ w' = w := by
  match l, hl with
  | [], _ =>
    have z0 : (strL []).size = 0 := rfl
    go_enter Try.func69, Try.ntmps69
    go_wp2
    go_rounds 1
    refine bodyPost_ret (v := .tuple #[.int .i64 0, .int .i64 0]) (by simp [results, Try.results69, go_sem]) rfl ?_
    exact ⟨.inr ⟨rfl, rfl⟩, rfl⟩
  | [b], hl =>
    have z0 : (strL ([b])).size = 1 := by rw [strL_size]; rfl
    have hb8 : (b.toNat : Int) < 256 := by have := UInt8.toNat_lt b; omega
    have hg := get0 b [] (by rw [strL_size]; simp)
    have hba := and8 (b.toNat : Int) (by omega) hb8
    have r0 : 0 ≤ (b.toNat : Int) % 128 := by omega
    have r1 : (b.toNat : Int) % 128 < 128 := by omega
    obtain ⟨r, hr⟩ : ∃ r, r = (b.toNat : Int) % 128 := ⟨_, rfl⟩
    rw [← hr] at hba r0 r1
    have ho0 : bits BinOp.or IntKind.i64 0 r = r := by simpa using or_add 0 r 0 (by decide) (by decide) (by decide) r0 r1
    by_cases hb : (b.toNat : Int) < 128
    · have HR : Hid (tk3 ([b]) = some (r, 1)) := by
        show _ = _
        simp only [tk3.eq_def]
        rw [if_pos (by omega)]
        congr 2
        omega
      clear hr
      go_enter Try.func69, Try.ntmps69
      go_wp2
      go_rounds 4
      all_goals refine bodyPost_ret (v := .tuple #[.int .i64 (r), .int .i64 1]) (by simp [results, Try.results69, go_sem]) rfl ?_
      all_goals exact ⟨.inl ⟨_, _, HR.out, rfl⟩, rfl⟩
    · have HR : Hid (tk3 ([b]) = none) := by
        show _ = _
        simp only [tk3.eq_def]
        rw [if_neg (by omega)]
      clear hr
      go_enter Try.func69, Try.ntmps69
      go_wp2
      go_rounds 4
      all_goals refine bodyPost_ret (v := .tuple #[.int .i64 0, .int .i64 0]) (by simp [results, Try.results69, go_sem]) rfl ?_
      all_goals exact ⟨.inr ⟨HR.out, rfl⟩, rfl⟩
  | b :: c :: [], hl =>
    have z0 : (strL (b :: c :: [])).size = 2 := by rw [strL_size]; rfl
    have hb8 : (b.toNat : Int) < 256 := by have := UInt8.toNat_lt b; omega
    have hc8 : (c.toNat : Int) < 256 := by have := UInt8.toNat_lt c; omega
    have hg := get0 b (c :: []) (by rw [strL_size]; simp)
    have hg1 := get1 b c [] (by rw [strL_size]; simp)
    have hba := and8 (b.toNat : Int) (by omega) hb8
    have r0 : 0 ≤ (b.toNat : Int) % 128 := by omega
    have r1 : (b.toNat : Int) % 128 < 128 := by omega
    have hca := and8 (c.toNat : Int) (by omega) hc8
    have s0 : 0 ≤ (c.toNat : Int) % 128 := by omega
    have s1 : (c.toNat : Int) % 128 < 128 := by omega
    obtain ⟨r, hr⟩ : ∃ r, r = (b.toNat : Int) % 128 := ⟨_, rfl⟩
    rw [← hr] at hba r0 r1
    obtain ⟨s, hs⟩ : ∃ s, s = (c.toNat : Int) % 128 := ⟨_, rfl⟩
    rw [← hs] at hca s0 s1
    have ho0 : bits BinOp.or IntKind.i64 0 r = r := by simpa using or_add 0 r 0 (by decide) (by decide) (by decide) r0 r1
    have ho1 : bits BinOp.or IntKind.i64 r (s * 128) = r + s * 128 := or_add r s 7 (by decide) r0 r1 s0 s1
    by_cases hb : (b.toNat : Int) < 128
    · have HR : Hid (tk3 (b :: c :: []) = some (r, 1)) := by
        show _ = _
        simp only [tk3.eq_def]
        rw [if_pos (by omega)]
        congr 2
        omega
      clear hr hs
      go_enter Try.func69, Try.ntmps69
      go_wp2
      go_rounds 4
      all_goals refine bodyPost_ret (v := .tuple #[.int .i64 (r), .int .i64 1]) (by simp [results, Try.results69, go_sem]) rfl ?_
      all_goals exact ⟨.inl ⟨_, _, HR.out, rfl⟩, rfl⟩
    · by_cases hc : (c.toNat : Int) < 128
      · have HR : Hid (tk3 (b :: c :: []) = some (r + s * 128, 2)) := by
          show _ = _
          simp only [tk3.eq_def]
          rw [if_neg (by omega), if_pos (by omega)]
          congr 2
          omega
        clear hr hs
        go_enter Try.func69, Try.ntmps69
        go_wp2
        go_rounds 4
        all_goals refine bodyPost_ret (v := .tuple #[.int .i64 (r + s * 128), .int .i64 2]) (by simp [results, Try.results69, go_sem]) rfl ?_
        all_goals exact ⟨.inl ⟨_, _, HR.out, rfl⟩, rfl⟩
      · have HR : Hid (tk3 (b :: c :: []) = none) := by
          show _ = _
          simp only [tk3.eq_def]
          rw [if_neg (by omega), if_neg (by omega)]
        clear hr hs
        go_enter Try.func69, Try.ntmps69
        go_wp2
        go_rounds 4
        all_goals refine bodyPost_ret (v := .tuple #[.int .i64 0, .int .i64 0]) (by simp [results, Try.results69, go_sem]) rfl ?_
        all_goals exact ⟨.inr ⟨HR.out, rfl⟩, rfl⟩
  | b :: c :: d :: v, hl =>
    have z0 : (strL (b :: c :: d :: v)).size = v.length + 3 := by rw [strL_size]; rfl
    have hl2 : v.length + 3 ≤ 2 ^ 20 := by simpa using hl
    have hb8 : (b.toNat : Int) < 256 := by have := UInt8.toNat_lt b; omega
    have hc8 : (c.toNat : Int) < 256 := by have := UInt8.toNat_lt c; omega
    have hd8 : (d.toNat : Int) < 256 := by have := UInt8.toNat_lt d; omega
    have hg := get0 b (c :: d :: v) (by rw [strL_size]; simp)
    have hg1 := get1 b c (d :: v) (by rw [strL_size]; simp)
    have hg2 := get2 b c d v (by rw [strL_size]; simp)
    have hba := and8 (b.toNat : Int) (by omega) hb8
    have r0 : 0 ≤ (b.toNat : Int) % 128 := by omega
    have r1 : (b.toNat : Int) % 128 < 128 := by omega
    have hca := and8 (c.toNat : Int) (by omega) hc8
    have s0 : 0 ≤ (c.toNat : Int) % 128 := by omega
    have s1 : (c.toNat : Int) % 128 < 128 := by omega
    have hda := and8 (d.toNat : Int) (by omega) hd8
    have u0 : 0 ≤ (d.toNat : Int) % 128 := by omega
    have u1 : (d.toNat : Int) % 128 < 128 := by omega
    obtain ⟨r, hr⟩ : ∃ r, r = (b.toNat : Int) % 128 := ⟨_, rfl⟩
    rw [← hr] at hba r0 r1
    obtain ⟨s, hs⟩ : ∃ s, s = (c.toNat : Int) % 128 := ⟨_, rfl⟩
    rw [← hs] at hca s0 s1
    obtain ⟨u, hu⟩ : ∃ u, u = (d.toNat : Int) % 128 := ⟨_, rfl⟩
    rw [← hu] at hda u0 u1
    have ho0 : bits BinOp.or IntKind.i64 0 r = r := by simpa using or_add 0 r 0 (by decide) (by decide) (by decide) r0 r1
    have ho1 : bits BinOp.or IntKind.i64 r (s * 128) = r + s * 128 := or_add r s 7 (by decide) r0 r1 s0 s1
    have ho2 : bits BinOp.or IntKind.i64 (r + s * 128) (u * 16384) = r + s * 128 + u * 16384 := or_add (r + s * 128) u 14 (by decide) (by omega) (by omega) u0 u1
    by_cases hb : (b.toNat : Int) < 128
    · have HR : Hid (tk3 (b :: c :: d :: v) = some (r, 1)) := by
        show _ = _
        simp only [tk3.eq_def]
        rw [if_pos (by omega)]
        congr 2
        omega
      clear hr hs hu
      go_enter Try.func69, Try.ntmps69
      go_wp2
      go_rounds 4
      all_goals refine bodyPost_ret (v := .tuple #[.int .i64 (r), .int .i64 1]) (by simp [results, Try.results69, go_sem]) rfl ?_
      all_goals exact ⟨.inl ⟨_, _, HR.out, rfl⟩, rfl⟩
    · by_cases hc : (c.toNat : Int) < 128
      · have HR : Hid (tk3 (b :: c :: d :: v) = some (r + s * 128, 2)) := by
          show _ = _
          simp only [tk3.eq_def]
          rw [if_neg (by omega), if_pos (by omega)]
          congr 2
          omega
        clear hr hs hu
        go_enter Try.func69, Try.ntmps69
        go_wp2
        go_rounds 4
        all_goals refine bodyPost_ret (v := .tuple #[.int .i64 (r + s * 128), .int .i64 2]) (by simp [results, Try.results69, go_sem]) rfl ?_
        all_goals exact ⟨.inl ⟨_, _, HR.out, rfl⟩, rfl⟩
      · by_cases hd : (d.toNat : Int) < 128
        · have HR : Hid (tk3 (b :: c :: d :: v) = some (r + s * 128 + u * 16384, 3)) := by
            show _ = _
            simp only [tk3.eq_def]
            rw [if_neg (by omega), if_neg (by omega), if_pos (by omega)]
            congr 2
            omega
          clear hr hs hu
          go_enter Try.func69, Try.ntmps69
          go_wp2
          go_rounds 4
          all_goals refine bodyPost_ret (v := .tuple #[.int .i64 (r + s * 128 + u * 16384), .int .i64 3]) (by simp [results, Try.results69, go_sem]) rfl ?_
          all_goals exact ⟨.inl ⟨_, _, HR.out, rfl⟩, rfl⟩
        · have HR : Hid (tk3 (b :: c :: d :: v) = none) := by
            show _ = _
            simp only [tk3.eq_def]
            rw [if_neg (by omega), if_neg (by omega), if_neg (by omega)]
          clear hr hs hu
          go_enter Try.func69, Try.ntmps69
          go_wp2
          go_rounds 4
          all_goals refine bodyPost_ret (v := .tuple #[.int .i64 0, .int .i64 0]) (by simp [results, Try.results69, go_sem]) rfl ?_
          all_goals exact ⟨.inr ⟨HR.out, rfl⟩, rfl⟩

--@rest
end Go.Proofs.Ytcnlmpdpimhcbaa
