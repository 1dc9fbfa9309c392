/- Two filters that say the same, held against each other. No condition. A copied filter reads as the one that came in. A filter of one's own beside what is marked. -/
import Derived.Test.YtjohocnfcnjciaaGreatDoorFilM
import Derived.Test.YtjohocnfcnjciaaGreatDoorFilTo
import Derived.Test.YtjohocnfcnjciaaGreatDoorFilHd
namespace Go.Proofs.YtjohocnfcnjciaaGreatDoor
open Go.RowKit
set_option linter.unusedVariables false

set_option maxHeartbeats 400000 in
theorem eqIntS_at (g1 o1 c1 g2 o2 c2 n : Nat) (f : Nat → Int) (w : World) (hn : n ≤ 2 ^ 40) (hb1 : g1 < w.heap.size) (hb2 : g2 < w.heap.size) (h1 : ∀ i, i < n → w.cell? ⟨g1, o1 + i, none⟩ = some (.int .i64 (f i))) (h2 : ∀ i, i < n → w.cell? ⟨g2, o2 + i, none⟩ = some (.int .i64 (f i))) :
    Calls Tryz.prog 22 #[.slice (some ⟨g1, o1, none⟩) n c1, .slice (some ⟨g2, o2, none⟩) n c2] w fun e w' => e = .returned (.bool true) ∧ Below w.heap.size w w' := by
  have H1 : Hid (∀ i, i < n → w.cell? ⟨g1, o1 + i, none⟩ = some (.int .i64 (f i))) := h1
  have H2 : Hid (∀ i, i < n → w.cell? ⟨g2, o2 + i, none⟩ = some (.int .i64 (f i))) := h2
  clear h1 h2
  go_enter Tryz.func22, Tryz.ntmps22
  go_wp2_with fail
  go_loopw [5] (fun i wr => ∃ k : Nat, k ≤ n ∧ i = .int .i64 k ∧ Below w.heap.size w wr) (fun i _ => n - (intOf i).toNat)
  case atStart => exact ⟨0, Nat.zero_le _, rfl, Below.refl _ _⟩
  case round =>
    obtain ⟨k, hk, rfl, hnx⟩ := hrel
    by_cases hlt : k < n
    · have a0 := (hnx.cell hb1).trans (H1.out k hlt)
      have d0 := (hnx.cell hb2).trans (H2.out k hlt)
      have i0 : (0 : Int) ≤ (k : Int) := by omega
      have i1 : (k : Int) < (n : Int) := by omega
      go_wp2_with fail
      go_region_held3 (fun w' => w'.cell? ⟨g1, o1 + k, none⟩ = some (.int .i64 (f k)) ∧ w'.cell? ⟨g2, o2 + k, none⟩ = some (.int .i64 (f k))) (exact ⟨a0, d0⟩) (fail)
      go_wp2
      go_roundw
      case rel => exact ⟨k + 1, by omega, by go_num, hnx.drew⟩
      case measure => simp [intOf]; omega
    · go_wp2
      go_ret
      exact ⟨rfl, hnx⟩

set_option maxHeartbeats 400000 in
theorem eqIntS_zero (a1 a2 : Option Addr) (c1 c2 : Nat) (w : World) :
    Calls Tryz.prog 22 #[.slice a1 0 c1, .slice a2 0 c2] w fun e w' => e = .returned (.bool true) ∧ Below w.heap.size w w' := by
  go_enter Tryz.func22, Tryz.ntmps22
  go_wp2
  go_rounds 1
  go_ret
  exact ⟨rfl, by go_grown⟩

theorem eqIntS_arg (a1 a2 : Option Addr) (c1 c2 n : Nat) (f : Nat → Int) (w : World) (hn : n ≤ 2 ^ 40) (h1 : ArgI w a1 n f) (h2 : ArgI w a2 n f) :
    Calls Tryz.prog 22 #[.slice a1 n c1, .slice a2 n c2] w fun e w' => e = .returned (.bool true) ∧ Below w.heap.size w w' := by
  rcases h1 with rfl | ⟨b1, o1, rfl, q1, h1⟩
  · exact eqIntS_zero a1 a2 c1 c2 w
  · rcases h2 with rfl | ⟨b2, o2, rfl, q2, h2⟩
    · exact eqIntS_zero _ a2 c1 c2 w
    · exact eqIntS_at b1 o1 c1 b2 o2 c2 n f w hn q1 q2 h1 h2


/-- Its lengths are no greater than memory's. -/
def FitT (x : Tm) : Prop := x.n ≤ 2 ^ 40 ∧ x.m ≤ 2 ^ 40
theorem SmallT.fit {x : Tm} (h : SmallT x) : FitT x := ⟨by have := h.2.1.1; omega, by have := h.2.2; omega⟩

set_option maxHeartbeats 1000000 in
theorem eqTerm_same (y : Tm) (va ka va' ka' : Option Addr) (vc kc vc' kc' : Nat) (w : World) (hf : FitT y) (hv : ArgIs w va y.n y.N) (hk : ArgI w ka y.m y.K) (hv' : ArgIs w va' y.n y.N) (hk' : ArgI w ka' y.m y.K) :
    Calls Tryz.prog 67 #[.agg #[.int .i64 y.kind, .string y.path, .slice va y.n vc, .slice ka y.m kc], .agg #[.int .i64 y.kind, .string y.path, .slice va' y.n vc', .slice ka' y.m kc']] w fun e w' => e = .returned (.bool true) ∧ Below w.heap.size w w' := by
  obtain ⟨k, p, n, N, m, K⟩ := y
  obtain ⟨f1, f2⟩ := hf
  dsimp only at hv hk hv' hk' f1 f2 ⊢
  have HV : Hid (ArgIs w va n N) := hv
  have HK : Hid (ArgI w ka m K) := hk
  have HV' : Hid (ArgIs w va' n N) := hv'
  have HK' : Hid (ArgI w ka' m K) := hk'
  have HF : Hid (n ≤ 2 ^ 40 ∧ m ≤ 2 ^ 40) := ⟨f1, f2⟩
  clear hv hk hv' hk' f1 f2
  have hbl0 : ∀ o o', Below w.heap.size w ((w.alloc o).alloc o') := fun o o' => ((Below.refl _ _).alloc (Nat.le_refl _) o).alloc (by simp) o'
  go_enter Tryz.func67, Tryz.ntmps67
  go_wp2_with fail
  refine (eqValue_any _ _ n N _ ((HV.out.below (hbl0 _ _)).slice HF.out.1) ((HV'.out.below (hbl0 _ _)).slice HF.out.1)).mono ?_
  rintro e w1 ⟨rfl, hb⟩
  have x1 : w1.cell? ⟨w.heap.size, 3, none⟩ = some (.slice ka m kc) := by rw [hb.cell (by simp; omega)]; simp [go_sem]
  have y1 : w1.cell? ⟨w.heap.size + 1, 3, none⟩ = some (.slice ka' m kc') := by rw [hb.cell (by simp)]; simp [go_sem]
  have HB : Hid (Below w.heap.size w w1) := (hbl0 _ _).trans (hb.mono (by simp; omega))
  clear hb hbl0
  go_wp2_with fail
  refine (eqIntS_arg ka ka' kc kc' m K _ HF.out.2 (HK.out.below HB.out) (HK'.out.below HB.out)).mono ?_
  rintro e w2 ⟨rfl, hb2⟩
  have HB2 : Hid (Below w.heap.size w w2) := HB.out.trans (hb2.mono HB.out.size)
  clear hb2
  go_wp2
  go_ret
  exact ⟨rfl, HB2.out⟩

set_option maxHeartbeats 2000000 in
theorem eqTermS_same (a1 a2 : Option Addr) (c1 c2 t : Nat) (F : Nat → Tm) (w : World) (ht : t ≤ 2 ^ 40) (hf : ∀ i, i < t → FitT (F i)) (h1 : FArg w a1 t F) (h2 : FArg w a2 t F) :
    Calls Tryz.prog 38 #[.slice a1 t c1, .slice a2 t c2] w fun e w' => e = .returned (.bool true) ∧ Below w.heap.size w w' := by
  have H1 : Hid (FArg w a1 t F) := h1
  have H2 : Hid (FArg w a2 t F) := h2
  have HF : Hid (∀ i, i < t → FitT (F i)) := hf
  clear h1 h2 hf
  go_enter Tryz.func38, Tryz.ntmps38
  go_wp2_with fail
  go_loopw [5] (fun i wr => ∃ k : Nat, k ≤ t ∧ i = .int .i64 k ∧ Below w.heap.size w wr) (fun i _ => t - (intOf i).toNat)
  case atStart => exact ⟨0, Nat.zero_le _, rfl, Below.refl _ _⟩
  case round =>
    obtain ⟨k, hk, rfl, hnx⟩ := hrel
    by_cases hlt : k < t
    · obtain ⟨b, off, va, vc, ka, kc, rfl, hb, a0, a1, a2, a3, hv, hk1⟩ := (H1.out.below hnx).at hlt
      obtain ⟨b', off', va', vc', ka', kc', rfl, hb', d0, d1, d2, d3, hv', hk2⟩ := (H2.out.below hnx).at hlt
      have i0 : (0 : Int) ≤ (k : Int) := by omega
      have i1 : (k : Int) < (t : Int) := by omega
      have HV : Hid (ArgIs wr va (F k).n (F k).N ∧ ArgI wr ka (F k).m (F k).K ∧ ArgIs wr va' (F k).n (F k).N ∧ ArgI wr ka' (F k).m (F k).K) := ⟨hv, hk1, hv', hk2⟩
      have HD : Hid (Below wr.heap.size wr wr.drew) := (Below.refl _ _).drew
      have HS1 : Hid (wr.cell? ⟨b, off + k * 4, none⟩ = some (.int .i64 (F k).kind) ∧ wr.cell? ⟨b, off + k * 4 + 1, none⟩ = some (.string (F k).path) ∧ wr.cell? ⟨b, off + k * 4 + 2, none⟩ = some (.slice va (F k).n vc) ∧ wr.cell? ⟨b, off + k * 4 + 3, none⟩ = some (.slice ka (F k).m kc) ∧
        wr.cell? ⟨b', off' + k * 4, none⟩ = some (.int .i64 (F k).kind) ∧ wr.cell? ⟨b', off' + k * 4 + 1, none⟩ = some (.string (F k).path) ∧ wr.cell? ⟨b', off' + k * 4 + 2, none⟩ = some (.slice va' (F k).n vc') ∧ wr.cell? ⟨b', off' + k * 4 + 3, none⟩ = some (.slice ka' (F k).m kc')) := ⟨a0, a1, a2, a3, d0, d1, d2, d3⟩
      have HSK : Hid (∀ w', Below wr.heap.size wr w' → w'.cell? ⟨b, off + k * 4, none⟩ = some (.int .i64 (F k).kind) ∧ w'.cell? ⟨b, off + k * 4 + 1, none⟩ = some (.string (F k).path) ∧ w'.cell? ⟨b, off + k * 4 + 2, none⟩ = some (.slice va (F k).n vc) ∧ w'.cell? ⟨b, off + k * 4 + 3, none⟩ = some (.slice ka (F k).m kc) ∧
        w'.cell? ⟨b', off' + k * 4, none⟩ = some (.int .i64 (F k).kind) ∧ w'.cell? ⟨b', off' + k * 4 + 1, none⟩ = some (.string (F k).path) ∧ w'.cell? ⟨b', off' + k * 4 + 2, none⟩ = some (.slice va' (F k).n vc') ∧ w'.cell? ⟨b', off' + k * 4 + 3, none⟩ = some (.slice ka' (F k).m kc')) := fun w' h =>
          ⟨(h.cell hb).trans a0, (h.cell hb).trans a1, (h.cell hb).trans a2, (h.cell hb).trans a3, (h.cell hb').trans d0, (h.cell hb').trans d1, (h.cell hb').trans d2, (h.cell hb').trans d3⟩
      clear hv hk1 hv' hk2
      go_wp2_with fail
      go_region_held3 (fun w' => w'.cell? ⟨b, off + k * 4, none⟩ = some (.int .i64 (F k).kind) ∧ w'.cell? ⟨b, off + k * 4 + 1, none⟩ = some (.string (F k).path) ∧ w'.cell? ⟨b, off + k * 4 + 2, none⟩ = some (.slice va (F k).n vc) ∧ w'.cell? ⟨b, off + k * 4 + 3, none⟩ = some (.slice ka (F k).m kc) ∧
        w'.cell? ⟨b', off' + k * 4, none⟩ = some (.int .i64 (F k).kind) ∧ w'.cell? ⟨b', off' + k * 4 + 1, none⟩ = some (.string (F k).path) ∧ w'.cell? ⟨b', off' + k * 4 + 2, none⟩ = some (.slice va' (F k).n vc') ∧ w'.cell? ⟨b', off' + k * 4 + 3, none⟩ = some (.slice ka' (F k).m kc')) (first | exact HS1.out | exact HSK.out _ HD.out | exact HSK.out _ hB1)
        (first | (go_at_call 67; go_fit (eqTerm_same (F k) va ka va' ka' vc kc vc' kc' wr.drew (HF.out k hlt) (HV.out.1.below HD.out) (HV.out.2.1.below HD.out) (HV.out.2.2.1.below HD.out) (HV.out.2.2.2.below HD.out)); rintro e w1 ⟨rfl, hb1⟩; have hB1 : Below wr.heap.size wr w1 := HD.out.trans hb1))
      go_wp2
      go_roundw
      case rel => exact ⟨k + 1, by omega, by go_num, hnx.trans (hB1.mono hnx.size)⟩
      case measure => simp [intOf]; omega
    · go_wp2
      go_ret
      exact ⟨rfl, hnx⟩

set_option maxHeartbeats 400000 in
theorem eqFilter_same (a1 a2 : Option Addr) (c1 c2 t : Nat) (F : Nat → Tm) (w : World) (ht : t ≤ 2 ^ 40) (hf : ∀ i, i < t → FitT (F i)) (h1 : FArg w a1 t F) (h2 : FArg w a2 t F) :
    Calls Tryz.prog 12 #[.agg #[.slice a1 t c1], .agg #[.slice a2 t c2]] w fun e w' => e = .returned (.bool true) ∧ Below w.heap.size w w' := by
  have H1 : Hid (FArg w a1 t F) := h1
  have H2 : Hid (FArg w a2 t F) := h2
  have HF : Hid (∀ i, i < t → FitT (F i)) := hf
  clear h1 h2 hf
  go_enter Tryz.func12, Tryz.ntmps12
  go_wp2_with fail
  refine (eqTermS_same a1 a2 c1 c2 t F _ ht HF.out (H1.out.below (by go_grown)) (H2.out.below (by go_grown))).mono ?_
  rintro e w1 ⟨rfl, hb⟩
  go_wp2
  go_ret
  exact ⟨rfl, (show Below w.heap.size w _ by go_grown).trans (hb.mono (by simp; omega))⟩

end Go.Proofs.YtjohocnfcnjciaaGreatDoor
namespace Go.Proofs.YtjohocnfcnjciaaGreatDoor
open Go.RowKit

theorem TermsTo.arg {t : Nat} {F : Nat → Tm} {w w' : World} {a : Option Addr} {c : Nat} (h : TermsTo t F w a c w') : FArg w' a t F := by
  obtain ⟨_, b, P, Q, _, _, _, hF⟩ := h
  exact hF.arg

end Go.Proofs.YtjohocnfcnjciaaGreatDoor
namespace Go.Proofs.YtjohocnfcnjciaaGreatDoor
open Go.RowKit
set_option linter.unusedVariables false

/-- A filter whose blocks lie elsewhere stays as it was. -/
theorem FOwn.away {S : Nat → Prop} {w w' : World} {b : Nat} {a : Option Addr} {t : Nat} {F : Nat → Tm} {P Q : Nat → Nat} (h : FOwn w b a t F P Q) (hk : Kept S w w') (lo hi : Nat) (h1 : t ≠ 0 → lo ≤ b ∧ b < hi) (h2 : ∀ i, i < t → lo ≤ P i ∧ Q i ≤ hi) (hs : ∀ x, S x → x < lo ∨ hi ≤ x) : FOwn w' b a t F P Q :=
  h.kept hk (fun h0 hS => by have := h1 h0; have := hs _ hS; omega) (fun i hi g hg1 hg2 hS => by have := h2 i hi; have := hs _ hS; omega)
theorem InF.in {b t : Nat} {P Q : Nat → Nat} {lo hi : Nat} (h1 : lo ≤ b ∧ b < hi) (h2 : ∀ i, i < t → lo ≤ P i ∧ Q i ≤ hi) {x : Nat} (h : InF b t P Q x) : lo ≤ x ∧ x < hi := by
  rcases h with rfl | ⟨i, hi, h3, h4⟩
  · exact h1
  · have := h2 i hi; omega
theorem totF_same {F G : Nat → Tm} : ∀ t, (∀ i, i < t → (F i).n = (G i).n ∧ (F i).m = (G i).m) → totF F t = totF G t := by
  intro t
  induction t with
  | zero => intro _; rfl
  | succ t ih => intro h; rw [totF, totF, ih (fun i hi => h i (by omega)), (h t (by omega)).1, (h t (by omega)).2]

end Go.Proofs.YtjohocnfcnjciaaGreatDoor
