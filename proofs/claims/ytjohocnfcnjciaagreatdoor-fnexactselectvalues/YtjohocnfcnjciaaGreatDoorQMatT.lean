/- The specification's l5Match at terms above others. Whether a list has a part that is the same as a value: the program's hasPart. A term that stands alone, asked of a value: the program. The specification's order of trees. The part of a tree that names lead to: the specification's l3Get. The specification's l5Match at a term that stands alone. Clauses asked of a value: the program's matches, through the interface. -/
import Derived.Test.YtjohocnfcnjciaaGreatDoorQClF
import Derived.Test.YtjohocnfcnjciaaGreatDoorTrMem
import Derived.Test.YtjohocnfcnjciaaGreatDoorQGoodOk
import Derived.Deep.RegionLaw
import Derived.Deep.RegionHeld3
import Derived.Test.YtjohocnfcnjciaaGreatDoorQRndM
import Derived.Maps.AppendAt
import Derived.Sort.CutIn
import Derived.Test.YtjohocnfcnjciaaGreatDoorQPlN
import Derived.Test.YtjohocnfcnjciaaGreatDoorPathS
import Derived.Test.YtjohocnfcnjciaaGreatDoorTreeM
namespace Go.Proofs.YtjohocnfcnjciaaGreatDoor
open Go.RowKit
set_option linter.unusedVariables false

/-- What l5Match answers of the term k. -/
def MsSaid (w0 : World) (a : Option Addr) (c t : Nat) (F : Nat → Tm) (tr : Tr) (k : Nat) : Prop := ∀ (q : Bool) (w : World) (v : Value), q = (clF F (k + 1) k).hits tr → Below w0.heap.size w0 w → Tree w tr v →
    Calls Tryz.prog 55 #[.agg #[.slice a t c], .int .i64 k, v] w fun e w' => e = .returned (.bool q) ∧ Below w.heap.size w w'

set_option maxRecDepth 100000 in
set_option maxHeartbeats 4000000 in
theorem l5Match_not (w0 : World) (a : Option Addr) (c t : Nat) (F : Nat → Tm) (tr : Tr) (hF : FArg w0 a t F) (hA : Ahead F t) (ht : t ≤ 2 ^ 20) (k : Nat) (hk : k < t) (h8 : (F k).kind = 8) (ih : ∀ p, p < k → MsSaid w0 a c t F tr p) : MsSaid w0 a c t F tr k := by
  intro q w v hq hw hv
  obtain ⟨b, off, va, vc, ka, kc, rfl, hb, a0, a1, a2, a3, hvl, hkk⟩ := hF.at hk
  have zW := hw.size
  have hm0 := hA.2.1 k hk h8
  obtain ⟨k0, k1⟩ := hA.1 k hk 0 hm0
  obtain ⟨p, hp⟩ : ∃ p : Nat, (F k).K 0 = (p : Int) := ⟨((F k).K 0).toNat, by omega⟩
  have hpk : p < k := by omega
  rcases hkk with h0 | ⟨b', off', rfl, hb', hat⟩
  · omega
  have d0 := (hw.cell hb').trans (hat 0 hm0)
  rw [hp, Nat.add_zero] at d0
  have hqp : (!q) = (clF F (p + 1) p).hits tr := by
    have e : clF F (k + 1) k = .neg (clF F (p + 1) p) := by
      rw [clF, if_neg (by omega), if_neg (by omega), if_pos h8, hp, Int.toNat_natCast, clF_same hA.1 hA.2.1 p (by omega) k (p + 1) hpk (by omega)]
    rw [hq, e, Cl.hits]
    simp
  replace a0 := (hw.cell hb).trans a0
  replace a1 := (hw.cell hb).trans a1
  replace a2 := (hw.cell hb).trans a2
  replace a3 := (hw.cell hb).trans a3
  rw [h8] at a0
  have i0 : (0 : Int) ≤ (k : Int) := by omega
  have i1 : (k : Int) < (t : Int) := by omega
  have hbw : b < w.heap.size := by omega
  have hbw' : b' < w.heap.size := by omega
  obtain ⟨m, hm⟩ : ∃ m, m = (F k).m := ⟨_, rfl⟩
  rw [← hm] at a3 hm0
  have m0 : (0 : Int) < (m : Int) := by omega
  obtain ⟨an, cn, ak, ck, rfl⟩ := hv.head
  obtain ⟨kk, hkk⟩ : ∃ kk, kk = tr.kind := ⟨_, rfl⟩
  obtain ⟨nn, hnn⟩ : ∃ nn, nn = tr.num := ⟨_, rfl⟩
  obtain ⟨tx, htx⟩ : ∃ tx, tx = tr.text := ⟨_, rfl⟩
  obtain ⟨ln, hln⟩ : ∃ ln, ln = tr.names.length := ⟨_, rfl⟩
  obtain ⟨lk, hlk⟩ : ∃ lk, lk = tr.kids.length := ⟨_, rfl⟩
  rw [← hkk, ← hnn, ← htx, ← hln, ← hlk] at hv ⊢
  have HI : Hid (∀ W, Below w.heap.size w W → Calls Tryz.prog 55 #[.agg #[.slice (some ⟨b, off, none⟩) t c], .int .i64 p, .agg #[.int .i64 kk, .int .i64 nn, .string tx, .slice an ln cn, .slice ak lk ck]] W fun e w' => e = .returned (.bool (!q)) ∧ Below W.heap.size W w') := fun W hW =>
    ih p hpk (!q) W _ hqp (hw.trans (hW.mono zW)) (hv.below hW)
  clear hF hA ih hw hq hqp hv hat hp h8 hm k0 k1 hvl hkk hnn htx hln hlk
  go_enter Tryz.func55, Tryz.ntmps55
  go_wp2_with fail
  obtain ⟨W, hW⟩ : ∃ W, W = ((w.alloc (.cells #[.slice (some ⟨b, off, none⟩) t c] 34)).alloc (.cells #[.int .i64 kk, .int .i64 nn, .string tx, .slice an ln cn, .slice ak lk ck] 67)).alloc (.cells #[.int .i64 8, .string (F k).path, .slice va (F k).n vc, .slice (some ⟨b', off', none⟩) m kc] 90) := ⟨_, rfl⟩
  have bW : Below w.heap.size w W := by rw [hW]; exact (((Below.refl _ _).alloc (Nat.le_refl _) _).alloc (by simp) _).alloc (by simp; omega) _
  have zz2 : w.heap.size + 1 + 1 < W.heap.size := by rw [hW]; simp
  have zz1 : w.heap.size + 1 < W.heap.size := by omega
  have zz0 : w.heap.size < W.heap.size := by omega
  have zzb : b' < W.heap.size := by omega
  have K0 : W.cell? ⟨w.heap.size, 0, none⟩ = some (.slice (some ⟨b, off, none⟩) t c) ∧ W.cell? ⟨w.heap.size + 1, 0, none⟩ = some (.int .i64 kk) ∧ W.cell? ⟨w.heap.size + 1, 1, none⟩ = some (.int .i64 nn) ∧ W.cell? ⟨w.heap.size + 1, 2, none⟩ = some (.string tx) ∧ W.cell? ⟨w.heap.size + 1, 3, none⟩ = some (.slice an ln cn) ∧ W.cell? ⟨w.heap.size + 1, 4, none⟩ = some (.slice ak lk ck) ∧ W.cell? ⟨w.heap.size + 1 + 1, 3, none⟩ = some (.slice (some ⟨b', off', none⟩) m kc) ∧ W.cell? ⟨b', off', none⟩ = some (.int .i64 p) := by
    refine ⟨?_, ?_, ?_, ?_, ?_, ?_, ?_, (bW.cell hbw').trans d0⟩ <;> (rw [hW]; simp [go_sem])
  have HBW : Hid (Below w.heap.size w W) := bW
  have HIW : Hid (Calls Tryz.prog 55 #[.agg #[.slice (some ⟨b, off, none⟩) t c], .int .i64 p, .agg #[.int .i64 kk, .int .i64 nn, .string tx, .slice an ln cn, .slice ak lk ck]] W.drew fun e w' => e = .returned (.bool (!q)) ∧ Below W.heap.size W w') := (HI.out _ bW.drew).mono fun e w' h => ⟨h.1, (Below.drew (Below.refl W.heap.size W)).trans h.2⟩
  rw [← hW]
  clear hW bW a0 a1 a2 a3 d0
  go_region_held3 (fun w' => w'.cell? ⟨w.heap.size, 0, none⟩ = some (.slice (some ⟨b, off, none⟩) t c) ∧ w'.cell? ⟨w.heap.size + 1, 0, none⟩ = some (.int .i64 kk) ∧ w'.cell? ⟨w.heap.size + 1, 1, none⟩ = some (.int .i64 nn) ∧ w'.cell? ⟨w.heap.size + 1, 2, none⟩ = some (.string tx) ∧ w'.cell? ⟨w.heap.size + 1, 3, none⟩ = some (.slice an ln cn) ∧ w'.cell? ⟨w.heap.size + 1, 4, none⟩ = some (.slice ak lk ck) ∧ w'.cell? ⟨w.heap.size + 1 + 1, 3, none⟩ = some (.slice (some ⟨b', off', none⟩) m kc) ∧ w'.cell? ⟨b', off', none⟩ = some (.int .i64 p)) (first | exact K0 | exact K2 | go_keep | fail) (first | (go_at_call 55; refine HIW.out.mono ?_; rintro e w2 ⟨rfl, hb2⟩; have K2 : w2.cell? ⟨w.heap.size, 0, none⟩ = some (.slice (some ⟨b, off, none⟩) t c) ∧ w2.cell? ⟨w.heap.size + 1, 0, none⟩ = some (.int .i64 kk) ∧ w2.cell? ⟨w.heap.size + 1, 1, none⟩ = some (.int .i64 nn) ∧ w2.cell? ⟨w.heap.size + 1, 2, none⟩ = some (.string tx) ∧ w2.cell? ⟨w.heap.size + 1, 3, none⟩ = some (.slice an ln cn) ∧ w2.cell? ⟨w.heap.size + 1, 4, none⟩ = some (.slice ak lk ck) ∧ w2.cell? ⟨w.heap.size + 1 + 1, 3, none⟩ = some (.slice (some ⟨b', off', none⟩) m kc) ∧ w2.cell? ⟨b', off', none⟩ = some (.int .i64 p) := ⟨(hb2.cell zz0).trans K0.1, (hb2.cell zz1).trans K0.2.1, (hb2.cell zz1).trans K0.2.2.1, (hb2.cell zz1).trans K0.2.2.2.1, (hb2.cell zz1).trans K0.2.2.2.2.1, (hb2.cell zz1).trans K0.2.2.2.2.2.1, (hb2.cell zz2).trans K0.2.2.2.2.2.2.1, (hb2.cell zzb).trans K0.2.2.2.2.2.2.2⟩))
  all_goals
    have HB2 : Hid (Below w.heap.size w w2) := HBW.out.trans (hb2.mono HBW.out.size)
    clear hb2 K2 K0
    go_wp2
    go_ret
    exact ⟨by simp, HB2.out⟩

set_option maxRecDepth 100000 in
set_option maxHeartbeats 4000000 in
theorem l5Match_all (w0 : World) (a : Option Addr) (c t : Nat) (F : Nat → Tm) (tr : Tr) (hF : FArg w0 a t F) (hA : Ahead F t) (ht : t ≤ 2 ^ 20) (k : Nat) (hk : k < t) (hkd : (F k).kind = 6) (ih : ∀ p, p < k → MsSaid w0 a c t F tr p) : MsSaid w0 a c t F tr k := by
  intro q w v hq hw hv
  obtain ⟨b, off, va, vc, ka, kc, rfl, hb, a0, a1, a2, a3, hvl, hkk⟩ := hF.at hk
  have zW := hw.size
  obtain ⟨m, hm⟩ : ∃ m, m = (F k).m := ⟨_, rfl⟩
  have m20 : m ≤ 2 ^ 20 := by rw [hm]; exact hA.2.2 k hk
  obtain ⟨l, hl⟩ : ∃ l, l = kidsC F k m := ⟨_, rfl⟩
  have hll : l.length = m := by rw [hl, kidsC_len]
  have hqe : q = (Cl.all l).hits tr := by
    rw [hq, clF, hl, hm]
    simp [hkd, kidsC]
  replace a0 := (hw.cell hb).trans a0
  replace a1 := (hw.cell hb).trans a1
  replace a2 := (hw.cell hb).trans a2
  replace a3 := (hw.cell hb).trans a3
  rw [hkd] at a0
  rw [← hm] at a3
  have i0 : (0 : Int) ≤ (k : Int) := by omega
  have i1 : (k : Int) < (t : Int) := by omega
  have hbw : b < w.heap.size := by omega
  obtain ⟨an, cn, ak, ck, rfl⟩ := hv.head
  obtain ⟨kk, hkk'⟩ : ∃ kk, kk = tr.kind := ⟨_, rfl⟩
  obtain ⟨nn, hnn⟩ : ∃ nn, nn = tr.num := ⟨_, rfl⟩
  obtain ⟨tx, htx⟩ : ∃ tx, tx = tr.text := ⟨_, rfl⟩
  obtain ⟨ln, hln⟩ : ∃ ln, ln = tr.names.length := ⟨_, rfl⟩
  obtain ⟨lk, hlk⟩ : ∃ lk, lk = tr.kids.length := ⟨_, rfl⟩
  rw [← hkk', ← hnn, ← htx, ← hln, ← hlk] at hv ⊢
  have HKID : Hid (∀ j, j < m → ∃ p : Nat, (F k).K j = (p : Int) ∧ p < k ∧ l[j]? = some (clF F (p + 1) p)) := fun j hj => by
    obtain ⟨k0, k1⟩ := hA.1 k hk j (by omega)
    refine ⟨((F k).K j).toNat, by omega, by omega, ?_⟩
    rw [hl]
    unfold kidsC
    rw [List.getElem?_map, List.getElem?_range (by omega)]
    simp only [Option.map_some]
    rw [clF_same hA.1 hA.2.1 _ (by omega) k (((F k).K j).toNat + 1) (by omega) (by omega)]
  have HI : Hid (∀ p (qc : Bool), p < k → qc = (clF F (p + 1) p).hits tr → ∀ W, Below w.heap.size w W → Calls Tryz.prog 55 #[.agg #[.slice (some ⟨b, off, none⟩) t c], .int .i64 p, .agg #[.int .i64 kk, .int .i64 nn, .string tx, .slice an ln cn, .slice ak lk ck]] W fun e w' => e = .returned (.bool qc) ∧ Below W.heap.size W w') := fun p qc hpk hqc W hW =>
    ih p hpk qc W _ hqc (hw.trans (hW.mono zW)) (hv.below hW)
  have HKK : Hid (ArgI w ka m (F k).K) := by rw [hm]; exact hkk.below hw
  have HQ : Hid (q = (Cl.all l).hits tr ∧ l.length = m) := ⟨hqe, hll⟩
  clear hF hA ih hw hq hqe hv hm hvl hkk' hnn htx hln hlk hl hll hkk hkd
  go_enter Tryz.func55, Tryz.ntmps55
  go_wp2_with fail
  go_loopw [32] (fun i wr => ∃ j : Nat, j ≤ m ∧ i = .int .i64 (j : Int) ∧ Below w.heap.size w wr ∧ w.heap.size + 1 + 1 < wr.heap.size ∧ (wr.cell? ⟨w.heap.size, 0, none⟩ = some (.slice (some ⟨b, off, none⟩) t c) ∧ wr.cell? ⟨w.heap.size + 1, 0, none⟩ = some (.int .i64 kk) ∧ wr.cell? ⟨w.heap.size + 1, 1, none⟩ = some (.int .i64 nn) ∧ wr.cell? ⟨w.heap.size + 1, 2, none⟩ = some (.string tx) ∧ wr.cell? ⟨w.heap.size + 1, 3, none⟩ = some (.slice an ln cn) ∧ wr.cell? ⟨w.heap.size + 1, 4, none⟩ = some (.slice ak lk ck)) ∧ Hid (∀ (j' : Nat) (C : Cl), j' < j → l[j']? = some C → C.hits tr = true)) (fun i _ => m - (intOf i).toNat)
  case atStart => exact ⟨0, Nat.zero_le _, rfl, (((Below.refl _ _).alloc (Nat.le_refl _) _).alloc (by simp) _).alloc (by simp; omega) _, by simp, ⟨by simp [go_sem], by simp [go_sem], by simp [go_sem], by simp [go_sem], by simp [go_sem], by simp [go_sem]⟩, fun j' C h => by omega⟩
  case round =>
    rename World => x0
    obtain ⟨j, hj, rfl, hnx, zv, ⟨f0, v0, v1, v2, v3, v4⟩, HT⟩ := hrel
    have zr := hnx.size
    have zv1 : w.heap.size + 1 < x0.heap.size := by omega
    have zv0 : w.heap.size < x0.heap.size := by omega
    by_cases hlt : j < m
    · obtain ⟨p, hKp, hpk, hlj⟩ := HKID.out j hlt
      rcases HKK.out with h0 | ⟨b', off', rfl, hb', hat⟩
      · omega
      have d0 := (hnx.cell hb').trans (hat j hlt)
      rw [hKp] at d0
      have j0 : (0 : Int) ≤ (j : Int) := by omega
      have j1 : (j : Int) < (m : Int) := by omega
      have hbx : b' < x0.heap.size := by omega
      obtain ⟨qc, hqc⟩ : ∃ qc, qc = (clF F (p + 1) p).hits tr := ⟨_, rfl⟩
      have HCALL := HI.out p qc hpk hqc
      have HST : Hid (qc = false → q = false) := fun h => by rw [HQ.out.1]; exact all_fails hlj (by rw [← hqc]; exact h)
      have HGO : Hid (qc = true → ∀ (j' : Nat) (C' : Cl), j' < j + 1 → l[j']? = some C' → C'.hits tr = true) := fun h j' C' hj' hC' => by
        by_cases e : j' = j
        · subst e
          rw [hlj] at hC'
          injection hC' with hC'
          subst hC'
          rw [← hqc]; exact h
        · exact HT.out j' C' (by omega) hC'
      have HC : Hid (Calls Tryz.prog 55 #[.agg #[.slice (some ⟨b, off, none⟩) t c], .int .i64 p, .agg #[.int .i64 kk, .int .i64 nn, .string tx, .slice an ln cn, .slice ak lk ck]] x0 fun e w' => e = .returned (.bool qc) ∧ Below x0.heap.size x0 w') := HCALL x0 hnx
      have HNX : Hid (Below w.heap.size w x0) := hnx
      clear hat hnx hqc hlj hKp HCALL
      go_wp2_with fail
      refine (HC.out).mono ?_
      rintro e w2 ⟨rfl, hb2⟩
      have z2 := hb2.size
      have HB2 : Hid (Below w.heap.size w w2) := HNX.out.trans (hb2.mono HNX.out.size)
      have KK : w2.cell? ⟨w.heap.size, 0, none⟩ = some (.slice (some ⟨b, off, none⟩) t c) ∧ w2.cell? ⟨w.heap.size + 1, 0, none⟩ = some (.int .i64 kk) ∧ w2.cell? ⟨w.heap.size + 1, 1, none⟩ = some (.int .i64 nn) ∧ w2.cell? ⟨w.heap.size + 1, 2, none⟩ = some (.string tx) ∧ w2.cell? ⟨w.heap.size + 1, 3, none⟩ = some (.slice an ln cn) ∧ w2.cell? ⟨w.heap.size + 1, 4, none⟩ = some (.slice ak lk ck) := ⟨(hb2.cell zv0).trans f0, (hb2.cell zv1).trans v0, (hb2.cell zv1).trans v1, (hb2.cell zv1).trans v2, (hb2.cell zv1).trans v3, (hb2.cell zv1).trans v4⟩
      clear hb2 HC f0 v0 v1 v2 v3 v4
      cases qc with
      | false =>
        have hq := HST.out rfl
        subst hq
        go_wp2
        go_ret
        exact ⟨rfl, HB2.out⟩
      | true =>
        have HG := HGO.out rfl
        go_wp2
        go_roundw
        case rel => exact ⟨j + 1, by omega, by go_num, HB2.out, by omega, KK, HG⟩
        case measure => simp [intOf]; omega
    · have hq : q = true := by
        rw [HQ.out.1]
        exact all_holds fun j' C' hj' hC' => HT.out j' C' (by have := HQ.out.2; omega) hC'
      subst hq
      go_wp2
      go_ret
      exact ⟨rfl, hnx⟩

set_option maxRecDepth 100000 in
set_option maxHeartbeats 4000000 in
theorem l5Match_any (w0 : World) (a : Option Addr) (c t : Nat) (F : Nat → Tm) (tr : Tr) (hF : FArg w0 a t F) (hA : Ahead F t) (ht : t ≤ 2 ^ 20) (k : Nat) (hk : k < t) (hkd : (F k).kind = 7) (ih : ∀ p, p < k → MsSaid w0 a c t F tr p) : MsSaid w0 a c t F tr k := by
  intro q w v hq hw hv
  obtain ⟨b, off, va, vc, ka, kc, rfl, hb, a0, a1, a2, a3, hvl, hkk⟩ := hF.at hk
  have zW := hw.size
  obtain ⟨m, hm⟩ : ∃ m, m = (F k).m := ⟨_, rfl⟩
  have m20 : m ≤ 2 ^ 20 := by rw [hm]; exact hA.2.2 k hk
  obtain ⟨l, hl⟩ : ∃ l, l = kidsC F k m := ⟨_, rfl⟩
  have hll : l.length = m := by rw [hl, kidsC_len]
  have hqe : q = (Cl.any l).hits tr := by
    rw [hq, clF, hl, hm]
    simp [hkd, kidsC]
  replace a0 := (hw.cell hb).trans a0
  replace a1 := (hw.cell hb).trans a1
  replace a2 := (hw.cell hb).trans a2
  replace a3 := (hw.cell hb).trans a3
  rw [hkd] at a0
  rw [← hm] at a3
  have i0 : (0 : Int) ≤ (k : Int) := by omega
  have i1 : (k : Int) < (t : Int) := by omega
  have hbw : b < w.heap.size := by omega
  obtain ⟨an, cn, ak, ck, rfl⟩ := hv.head
  obtain ⟨kk, hkk'⟩ : ∃ kk, kk = tr.kind := ⟨_, rfl⟩
  obtain ⟨nn, hnn⟩ : ∃ nn, nn = tr.num := ⟨_, rfl⟩
  obtain ⟨tx, htx⟩ : ∃ tx, tx = tr.text := ⟨_, rfl⟩
  obtain ⟨ln, hln⟩ : ∃ ln, ln = tr.names.length := ⟨_, rfl⟩
  obtain ⟨lk, hlk⟩ : ∃ lk, lk = tr.kids.length := ⟨_, rfl⟩
  rw [← hkk', ← hnn, ← htx, ← hln, ← hlk] at hv ⊢
  have HKID : Hid (∀ j, j < m → ∃ p : Nat, (F k).K j = (p : Int) ∧ p < k ∧ l[j]? = some (clF F (p + 1) p)) := fun j hj => by
    obtain ⟨k0, k1⟩ := hA.1 k hk j (by omega)
    refine ⟨((F k).K j).toNat, by omega, by omega, ?_⟩
    rw [hl]
    unfold kidsC
    rw [List.getElem?_map, List.getElem?_range (by omega)]
    simp only [Option.map_some]
    rw [clF_same hA.1 hA.2.1 _ (by omega) k (((F k).K j).toNat + 1) (by omega) (by omega)]
  have HI : Hid (∀ p (qc : Bool), p < k → qc = (clF F (p + 1) p).hits tr → ∀ W, Below w.heap.size w W → Calls Tryz.prog 55 #[.agg #[.slice (some ⟨b, off, none⟩) t c], .int .i64 p, .agg #[.int .i64 kk, .int .i64 nn, .string tx, .slice an ln cn, .slice ak lk ck]] W fun e w' => e = .returned (.bool qc) ∧ Below W.heap.size W w') := fun p qc hpk hqc W hW =>
    ih p hpk qc W _ hqc (hw.trans (hW.mono zW)) (hv.below hW)
  have HKK : Hid (ArgI w ka m (F k).K) := by rw [hm]; exact hkk.below hw
  have HQ : Hid (q = (Cl.any l).hits tr ∧ l.length = m) := ⟨hqe, hll⟩
  clear hF hA ih hw hq hqe hv hm hvl hkk' hnn htx hln hlk hl hll hkk hkd
  go_enter Tryz.func55, Tryz.ntmps55
  go_wp2_with fail
  go_loopw [47] (fun i wr => ∃ j : Nat, j ≤ m ∧ i = .int .i64 (j : Int) ∧ Below w.heap.size w wr ∧ w.heap.size + 1 + 1 < wr.heap.size ∧ (wr.cell? ⟨w.heap.size, 0, none⟩ = some (.slice (some ⟨b, off, none⟩) t c) ∧ wr.cell? ⟨w.heap.size + 1, 0, none⟩ = some (.int .i64 kk) ∧ wr.cell? ⟨w.heap.size + 1, 1, none⟩ = some (.int .i64 nn) ∧ wr.cell? ⟨w.heap.size + 1, 2, none⟩ = some (.string tx) ∧ wr.cell? ⟨w.heap.size + 1, 3, none⟩ = some (.slice an ln cn) ∧ wr.cell? ⟨w.heap.size + 1, 4, none⟩ = some (.slice ak lk ck)) ∧ Hid (∀ (j' : Nat) (C : Cl), j' < j → l[j']? = some C → C.hits tr = false)) (fun i _ => m - (intOf i).toNat)
  case atStart => exact ⟨0, Nat.zero_le _, rfl, (((Below.refl _ _).alloc (Nat.le_refl _) _).alloc (by simp) _).alloc (by simp; omega) _, by simp, ⟨by simp [go_sem], by simp [go_sem], by simp [go_sem], by simp [go_sem], by simp [go_sem], by simp [go_sem]⟩, fun j' C h => by omega⟩
  case round =>
    rename World => x0
    obtain ⟨j, hj, rfl, hnx, zv, ⟨f0, v0, v1, v2, v3, v4⟩, HT⟩ := hrel
    have zr := hnx.size
    have zv1 : w.heap.size + 1 < x0.heap.size := by omega
    have zv0 : w.heap.size < x0.heap.size := by omega
    by_cases hlt : j < m
    · obtain ⟨p, hKp, hpk, hlj⟩ := HKID.out j hlt
      rcases HKK.out with h0 | ⟨b', off', rfl, hb', hat⟩
      · omega
      have d0 := (hnx.cell hb').trans (hat j hlt)
      rw [hKp] at d0
      have j0 : (0 : Int) ≤ (j : Int) := by omega
      have j1 : (j : Int) < (m : Int) := by omega
      have hbx : b' < x0.heap.size := by omega
      obtain ⟨qc, hqc⟩ : ∃ qc, qc = (clF F (p + 1) p).hits tr := ⟨_, rfl⟩
      have HCALL := HI.out p qc hpk hqc
      have HST : Hid (qc = true → q = true) := fun h => by rw [HQ.out.1]; exact any_holds hlj (by rw [← hqc]; exact h)
      have HGO : Hid (qc = false → ∀ (j' : Nat) (C' : Cl), j' < j + 1 → l[j']? = some C' → C'.hits tr = false) := fun h j' C' hj' hC' => by
        by_cases e : j' = j
        · subst e
          rw [hlj] at hC'
          injection hC' with hC'
          subst hC'
          rw [← hqc]; exact h
        · exact HT.out j' C' (by omega) hC'
      have HC : Hid (Calls Tryz.prog 55 #[.agg #[.slice (some ⟨b, off, none⟩) t c], .int .i64 p, .agg #[.int .i64 kk, .int .i64 nn, .string tx, .slice an ln cn, .slice ak lk ck]] x0 fun e w' => e = .returned (.bool qc) ∧ Below x0.heap.size x0 w') := HCALL x0 hnx
      have HNX : Hid (Below w.heap.size w x0) := hnx
      clear hat hnx hqc hlj hKp HCALL
      go_wp2_with fail
      refine (HC.out).mono ?_
      rintro e w2 ⟨rfl, hb2⟩
      have z2 := hb2.size
      have HB2 : Hid (Below w.heap.size w w2) := HNX.out.trans (hb2.mono HNX.out.size)
      have KK : w2.cell? ⟨w.heap.size, 0, none⟩ = some (.slice (some ⟨b, off, none⟩) t c) ∧ w2.cell? ⟨w.heap.size + 1, 0, none⟩ = some (.int .i64 kk) ∧ w2.cell? ⟨w.heap.size + 1, 1, none⟩ = some (.int .i64 nn) ∧ w2.cell? ⟨w.heap.size + 1, 2, none⟩ = some (.string tx) ∧ w2.cell? ⟨w.heap.size + 1, 3, none⟩ = some (.slice an ln cn) ∧ w2.cell? ⟨w.heap.size + 1, 4, none⟩ = some (.slice ak lk ck) := ⟨(hb2.cell zv0).trans f0, (hb2.cell zv1).trans v0, (hb2.cell zv1).trans v1, (hb2.cell zv1).trans v2, (hb2.cell zv1).trans v3, (hb2.cell zv1).trans v4⟩
      clear hb2 HC f0 v0 v1 v2 v3 v4
      cases qc with
      | true =>
        have hq := HST.out rfl
        subst hq
        go_wp2
        go_ret
        exact ⟨rfl, HB2.out⟩
      | false =>
        have HG := HGO.out rfl
        go_wp2
        go_roundw
        case rel => exact ⟨j + 1, by omega, by go_num, HB2.out, by omega, KK, HG⟩
        case measure => simp [intOf]; omega
    · have hq : q = false := by
        rw [HQ.out.1]
        exact any_fails fun j' C' hj' hC' => HT.out j' C' (by have := HQ.out.2; omega) hC'
      subst hq
      go_wp2
      go_ret
      exact ⟨rfl, hnx⟩

end Go.Proofs.YtjohocnfcnjciaaGreatDoor
namespace Go.Proofs.YtjohocnfcnjciaaGreatDoor
open Go.RowKit Go.Shelf
set_option linter.unusedVariables false
attribute [local go_sem] Oper.semAt_some

/-- The part p of the list is the same as L. -/
def HitP (X : Nat → Nd) (m : Nat) (L : Nat → Nd) (len p : Nat) : Prop := ∃ en, IsEnd X m p en ∧ en - p = len ∧ ∀ i, i < len → X (p + i) = partN L p 0 ⟨#[]⟩ i
def HasPIs (X : Nat → Nd) (m : Nat) (L : Nat → Nd) (len : Nat) (w : World) (e : Ending) (w' : World) : Prop := ∃ q, e = .returned (.bool q) ∧ (q = true ↔ ∃ p ∈ kidsTo X 0 m, HitP X m L len p) ∧ Below w.heap.size w w'
theorem parts_num {X : Nat → Nd} {m : Nat} {x : ByteArray × Nat} (h : x ∈ partsTo X 0 m) : x.2 ∈ kidsTo X 0 m := by
  unfold partsTo at h
  obtain ⟨y, hy, rfl⟩ := List.mem_map.1 h
  obtain ⟨p, i⟩ := y
  obtain ⟨_, h2, h3⟩ := List.mem_zipIdx hy
  show p ∈ kidsTo X 0 m
  rw [h3]
  exact List.getElem_mem _
theorem num_parts {X : Nat → Nd} {m p : Nat} (h : p ∈ kidsTo X 0 m) : ∃ x ∈ partsTo X 0 m, x.2 = p := by
  obtain ⟨i, hi, e⟩ := List.mem_iff_getElem.1 h
  refine ⟨(nmAt X 0 i p, p), ?_, rfl⟩
  unfold partsTo
  refine List.mem_map.2 ⟨(p, i), ?_, rfl⟩
  rw [List.mem_zipIdx_iff_getElem?]
  rw [List.getElem?_eq_getElem hi, e]
theorem nodes_from {w : World} {b o m : Nat} {X : Nat → Nd} (h : NodesAt w b o m X) (p en : Nat) (he : en ≤ m) : NodesAt w b (o + p * 5) (en - p) (fun i => X (p + i)) := fun i hi => by
  have := h (p + i) (by omega)
  rw [show o + (p + i) * 5 = o + p * 5 + i * 5 by omega] at this
  exact this
theorem owns_nodes {w : World} {B g len cap : Nat} {L : Nat → Nd} {p : Nat} (h : OwnsN w B (.slice (some ⟨g, 0, none⟩) len cap) (partL L len p 0 ⟨#[]⟩)) (h0 : 0 < len) (hl : len ≤ 2 ^ 20) : g < w.heap.size ∧ NodesAt w g 0 len (partN L p 0 ⟨#[]⟩) := by
  have hpl : (partL L len p 0 ⟨#[]⟩).length = len := partL_len _ _ _ _ _
  obtain ⟨b, h1, a, c, off, e, _, h2⟩ := h.own (by omega)
  rw [hpl] at e h2
  rcases h2 with h2 | ⟨ea, hb, hat, _⟩
  · omega
  · injection e with e1 e2 e3
    rw [ea] at e1
    injection e1 with e1
    injection e1 with e4 e5 _
    subst e4 e5
    refine ⟨hb, fun i hi => ?_⟩
    have := hat i hi
    have hg : (partL L len p 0 ⟨#[]⟩).getD i ⟨0, 0, ⟨#[]⟩, ⟨#[]⟩, 0⟩ = partN L p 0 ⟨#[]⟩ i := by
      unfold partL
      rw [List.getD_eq_getElem?_getD, List.getElem?_map, List.getElem?_range hi]
      rfl
    dsimp only at this
    rw [hg] at this
    exact this
theorem wpIn_calmP {F : Fence} {n : Nat} {P : Program} {c : Code} {K : Act → World → Prop} {Q : Exit → Act → World → Prop} {a : Act} {w : World} (h : c.wpIn F n P (Exit.then K fun _ _ _ => False) a w) : c.wpIn F n P (Exit.then K Q) a w := wpIn_mono h (fun e a w h => by cases e <;> first | exact h | exact h.elim)
set_option maxHeartbeats 400000 in
theorem eqPart_any (b1 o1 c1 m p en g4 cap4 len : Nat) (X L : Nat → Nd) (w4 : World) (hm : m ≤ 80) (hen : en ≤ m) (hl : len ≤ 80) (hb1 : b1 < w4.heap.size) (h1 : NodesAt w4 b1 o1 m X) (hg : g4 < w4.heap.size) (h2 : NodesAt w4 g4 0 len (partN L p 0 ⟨#[]⟩)) :
    Calls Tryz.prog 174 #[.slice (some ⟨b1, o1 + p * 5, none⟩) (en - p) (c1 - p), .slice (some ⟨g4, 0, none⟩) len cap4] w4 fun e w' => ∃ q, e = .returned (.bool q) ∧ (q = true ↔ en - p = len ∧ ∀ i, i < en - p → X (p + i) = partN L p 0 ⟨#[]⟩ i) ∧ Below w4.heap.size w4 w' := by
  have h3 := nodes_from h1 p en hen
  have := eqNodes_any b1 (o1 + p * 5) (c1 - p) (en - p) g4 0 cap4 len (fun i => X (p + i)) (partN L p 0 ⟨#[]⟩) w4 (by omega) (by omega) hb1 hg h3 h2
  exact this
def NoHit (X : Nat → Nd) (m : Nat) (L : Nat → Nd) (len : Nat) (pre : List (PartOf X 0 m)) : Prop := ∀ x ∈ pre, ¬ HitP X m L len x.1.2
def SomeHit (X : Nat → Nd) (m : Nat) (L : Nat → Nd) (len : Nat) (pre : List (PartOf X 0 m)) : Prop := ∃ x ∈ pre, HitP X m L len x.1.2
theorem below_othersP {W W' : World} (h : Below W.heap.size W W') : KeepsOthers W W' := ⟨h.size, fun k o hk _ => (h.block k (Array.getElem?_eq_some_iff.1 hk).1).trans hk⟩
theorem hit_of {X : Nat → Nd} {m : Nat} {L : Nat → Nd} {len p en : Nat} {q : Bool} (hen : IsEnd X m p en) (hq : q = true ↔ en - p = len ∧ ∀ i, i < en - p → X (p + i) = partN L p 0 ⟨#[]⟩ i) : q = true ↔ HitP X m L len p := by
  rw [hq]
  constructor
  · rintro ⟨h1, h2⟩
    exact ⟨en, hen, h1, fun i hi => h2 i (by omega)⟩
  · rintro ⟨en', hen', h1, h2⟩
    obtain rfl := end_unique hen hen'
    exact ⟨h1, fun i hi => h2 i (by omega)⟩
theorem size_ownP {β : Type} (B m : Nat) : OwnFrom B (fun (_ : β) W => m ≤ W.heap.size) := fun s X Y row hs hg hr => Nat.le_trans hs hg.size
theorem up_over {N : Nat → Nd} {n : Nat} (hg : GoodV N n) : ∀ i, i < n → (N i).up = ((0 : Nat) : Int) → 0 < i := by
  intro i hi hu
  by_cases h0 : i = 0
  · subst h0
    have := (good_pre hg).1 hi
    omega
  · omega

set_option maxRecDepth 100000 in
set_option maxHeartbeats 4000000 in
theorem hasPart_in (b1 o1 c1 m : Nat) (X : Nat → Nd) (b2 o2 c2 len : Nat) (L : Nat → Nd) (w : World) (hX : GoodV X m) (hb1 : b1 < w.heap.size) (h1 : NodesAt w b1 o1 m X) (hb2 : b2 < w.heap.size) (h2 : NodesAt w b2 o2 len L) (h0 : 0 < len) (hlen : len ≤ 80) (hup : ∀ i, i < len → -1 ≤ (L i).up ∧ (L i).up ≤ 2 ^ 20) (hc1 : m ≤ c1) :
    CallsIn Fence.wide 5 Tryz.prog 168 #[.slice (some ⟨b1, o1, none⟩) m c1, .slice (some ⟨b2, o2, none⟩) len c2] w (HasPIs X m L len w) := by
  have HG : Hid (GoodV X m) := hX
  have m80 : m ≤ 80 := hX.1.2.1
  have m0 : 0 < m := hX.1.1
  have H1 : Hid (NodesAt w b1 o1 m X) := h1
  have H2 : Hid (NodesAt w b2 o2 len L) := h2
  have HU : Hid (∀ i, i < len → -1 ≤ (L i).up ∧ (L i).up ≤ 2 ^ 20) := hup
  clear hX h1 h2 hup
  refine callsIn_of_wp_marks Tryz.func168 rfl trivial ?_ rfl
  simp only [Tryz.ntmps168, List.size_toArray, List.length_cons, List.length_nil, Nat.reduceAdd, Nat.reduceSub, Array.replicate_succ, Array.replicate_zero, List.push_toArray, List.append_toArray, List.nil_append, List.cons_append]
  gi_wp2_with fail
  refine ⟨trivial, (partsOf_in _ _ _ _ _ _).mono ?_⟩
  rintro e w' ⟨rfl, rfl⟩
  have bL := Boxed.new w 36 (.slice (some ⟨b1, o1, none⟩) m c1)
  have bX := Boxed.new (w.alloc (.cells #[.slice (some ⟨b1, o1, none⟩) m c1] 36)) 36 (.slice (some ⟨b2, o2, none⟩) len c2)
  have bQ := Boxed.new ((w.alloc (.cells #[.slice (some ⟨b1, o1, none⟩) m c1] 36)).alloc (.cells #[.slice (some ⟨b2, o2, none⟩) len c2] 36)) 4 (.bool false)
  have bN := Boxed.new (((w.alloc (.cells #[.slice (some ⟨b1, o1, none⟩) m c1] 36)).alloc (.cells #[.slice (some ⟨b2, o2, none⟩) len c2] 36)).alloc (.cells #[.bool false] 4)) 36 (.slice (some ⟨b1, o1, none⟩) m c1)
  have bK := Boxed.new ((((w.alloc (.cells #[.slice (some ⟨b1, o1, none⟩) m c1] 36)).alloc (.cells #[.slice (some ⟨b2, o2, none⟩) len c2] 36)).alloc (.cells #[.bool false] 4)).alloc (.cells #[.slice (some ⟨b1, o1, none⟩) m c1] 36)) 3 (.int .i64 ((0 : Nat) : Int))
  simp only [World.size_alloc] at bX bQ bN bK
  have hB0 : Below w.heap.size w (((((w.alloc (.cells #[.slice (some ⟨b1, o1, none⟩) m c1] 36)).alloc (.cells #[.slice (some ⟨b2, o2, none⟩) len c2] 36)).alloc (.cells #[.bool false] 4)).alloc (.cells #[.slice (some ⟨b1, o1, none⟩) m c1] 36)).alloc (.cells #[.int .i64 ((0 : Nat) : Int)] 3)) := (((((Below.refl _ w).alloc (Nat.le_refl _) _).alloc (by simp) _).alloc (by simp; omega) _).alloc (by simp; omega) _).alloc (by simp; omega) _
  gi_wp2_with fail
  refine wpIn_rangeFunc_ownG rfl (by decide) (gf := 182) (lb := #[.pointer (some ⟨w.heap.size + 1 + 1 + 1, 0, none⟩), .pointer (some ⟨w.heap.size + 1 + 1 + 1 + 1, 0, none⟩)]) rfl trivial (enters_of Tryz.func182 (by kernel_rfl) rfl)
    (parts_stopsS 4 (w.heap.size + 1 + 1 + 1) (w.heap.size + 1 + 1 + 1 + 1) b1 o1 c1 m 0 X (by decide) m80 m0 (up_over HG.out) (Keep3 b1 (w.heap.size + 1 + 1 + 1) (w.heap.size + 1 + 1 + 1 + 1)) (fun _ _ h => h) _ (by simp) (by simp) (by simp; omega) (bN.alloc _).cell bK.cell (H1.out.below hB0 hb1)) (fun h k => h.trans k) (keep3_b (by simp; omega) (by simp) (by simp)) (Below.refl _ _) (fun _ => rfl)
    (fun pre W => ((NoHit X m L len pre ∧ w.heap.size + 5 ≤ W.heap.size) ∧ (Boxed W w.heap.size 36 (.slice (some ⟨b1, o1, none⟩) m c1) ∧ (Boxed W (w.heap.size + 1) 36 (.slice (some ⟨b2, o2, none⟩) len c2) ∧ Boxed W (w.heap.size + 1 + 1) 4 (.bool false)))) ∧ Below w.heap.size w W)
    (fun c pre W => ((c = .ret ∧ SomeHit X m L len pre) ∧ Boxed W (w.heap.size + 1 + 1) 4 (.bool true)) ∧ Below w.heap.size w W)
    (OwnFrom.and (OwnFrom.and (OwnFrom.and (ownFrom_pure _ _) (size_ownP _ _)) (OwnFrom.and (Own.from (boxed_own _ _ _) _) (OwnFrom.and (Own.from (boxed_own _ _ _) _) (Own.from (boxed_own _ _ _) _)))) (ownFrom_below (Nat.le_refl _) (by simp; omega)))
    (fun c => OwnFrom.and (OwnFrom.and (ownFrom_pure _ _) (Own.from (boxed_own _ _ _) _)) (ownFrom_below (Nat.le_refl _) (by simp; omega)))
    ⟨⟨⟨fun x hx => by simp at hx, by simp⟩, (((bL.alloc _).alloc _).alloc _).alloc _, ((bX.alloc _).alloc _).alloc _, (bQ.alloc _).alloc _⟩, hB0⟩
    (fun x => { tmps := #[(.slice (some ⟨b1, o1, none⟩) m c1), (.slice (some ⟨b2, o2, none⟩) len c2), .pointer (some ⟨w.heap.size, 0, none⟩), .pointer (some ⟨w.heap.size + 1, 0, none⟩), .pointer (some ⟨w.heap.size + 1 + 1, 0, none⟩), undef, .int .i64 (x.1.2 : Int), (.slice (some ⟨b1, o1, none⟩) m c1), .func (.func 182) #[] #[.pointer (some ⟨w.heap.size + 1 + 1 + 1, 0, none⟩), .pointer (some ⟨w.heap.size + 1 + 1 + 1 + 1, 0, none⟩)], .string x.1.1, .int .i64 (x.1.2 : Int), undef, undef, undef, undef, undef, undef, undef, undef, undef, undef], defers := [] }) ?assign ?body ?done ?stop
  case assign =>
    intro l x W K hK
    dsimp only [encSP]
    gi_wp2
    exact hK
  case body =>
    rintro l pre ⟨⟨nm, p⟩, hx⟩ W ⟨⟨⟨hno, hsz⟩, hbL, hbX, hbQ⟩, hB⟩ hlt
    obtain ⟨hp0, hpm, hpu⟩ := kidsTo_mem (parts_num hx)
    dsimp only at hp0 hpm hpu
    have HNO : Hid (NoHit X m L len pre) := hno
    have HB : Hid (Below w.heap.size w W) := hB
    have cL := hbL.cell
    have cX := hbX.cell
    have i0 : (0 : Int) ≤ (p : Int) := by omega
    have KL : Hid (∀ W', Below W.heap.size W W' → W'.cell? ⟨w.heap.size, 0, none⟩ = some (.slice (some ⟨b1, o1, none⟩) m c1) ∧ W'.cell? ⟨w.heap.size + 1, 0, none⟩ = some (.slice (some ⟨b2, o2, none⟩) len c2)) := fun W' h => ⟨(h.cell (by show w.heap.size < _; omega)).trans cL, (h.cell (by show w.heap.size + 1 < _; omega)).trans cX⟩
    have hmx : (p : Int) ≤ (m : Int) := by omega
    clear hno bL bX bQ bN bK hB0
    have hcp : ¬ c1 = p := by omega
    dsimp only
    gi_upto_region 3 with fail
    gi_cut [20] from 21 (fun v wx => ∃ q : Bool, v = .bool q ∧ Hid ((q = true ↔ HitP X m L len p) ∧ Below W.heap.size W wx))
    case first =>
      rename_i J K1 hJ hK1
      refine wpIn_calmP ?_
      refine wpIn_region_any (by kernel_rfl) ?_
      refine wpAny_round l (by kernel_rfl) rfl _ _ _ _ ?_
      change wpAnyIn _ _ _ _ _ _ _ _ _ (World.drew _)
      refine wpAnyIn_take (i := 1) (v := .int .i64 (p : Int)) rfl rfl (by kernel_rfl) (by kernel_rfl) (by kernel_rfl) (fun _ _ _ h => h) ⟨Or.inl ⟨by rfl, ?_⟩, fun _ => rfl⟩ ?_
      · intro w; go_simp
      refine wpAnyIn_take (i := 3) (v := .int .i64 (p : Int)) rfl rfl (by kernel_rfl) (by kernel_rfl) (by kernel_rfl) (fun _ _ _ h => h) ⟨Or.inl ⟨by rfl, ?_⟩, fun _ => rfl⟩ ?_
      · intro w; go_simp
      refine wpAnyIn_take (i := 7) (v := .int .i64 (p : Int)) rfl rfl (by kernel_rfl) (by kernel_rfl) (by kernel_rfl) (fun _ _ _ h => h) ⟨Or.inl ⟨by rfl, ?_⟩, fun _ => rfl⟩ ?_
      · intro w; go_simp
      refine wpAnyIn_ready (rs := [0, 2, 6]) (by kernel_rfl) (by simp) ?_
      refine AllReadyIn.cons rfl (fun K hK => ?_) ?_
      · go_simp
        try (refine hK _ _ ?_; clear hK K)
        refine wpAnyIn_ready (rs := [2, 6]) (by kernel_rfl) (by simp) ?_
        refine AllReadyIn.cons rfl (fun K hK => ?_) ?_
        · go_simp
          try (refine hK _ _ ?_; clear hK K)
          refine wpAnyIn_ready (rs := [4, 6]) (by kernel_rfl) (by simp) ?_
          refine AllReadyIn.cons rfl (fun K hK => ?_) ?_
          · go_simp
            (refine ⟨trivial, ?_⟩
             gi_at_call 175
             refine (callsIn_wide.2 (endOf_any b1 o1 c1 m p X _ hpm (by omega) (H1.out.below (HB.out.drew) hb1))).mono ?_
             rintro e w0 ⟨en, rfl, hen, hw0⟩
             have hw := hw0.symm
             subst hw
             have hen' : (p : Int) ≤ (en : Int) := by have := hen.1; omega
             have hen2 : (en : Int) ≤ (c1 : Int) := by have := hen.2.1; omega)
            try (refine hK _ _ ?_; clear hK K)
            refine wpAnyIn_take (i := 5) (v := .slice (some ⟨b1, o1 + p * 5, none⟩) (en - p) (c1 - p)) rfl rfl (by kernel_rfl) (by kernel_rfl) (by kernel_rfl) (fun _ _ _ h => h) ⟨Or.inl ⟨by rfl, ?_⟩, fun _ => rfl⟩ ?_
            · intro w; go_simp
            refine wpAnyIn_ready (rs := [6]) (by kernel_rfl) (by simp) ?_
            refine AllReadyIn.cons rfl (fun K hK => ?_) ?_
            · go_simp
              try (refine hK _ _ ?_; clear hK K)
              refine wpAnyIn_ready (rs := [8]) (by kernel_rfl) (by simp) ?_
              refine AllReadyIn.cons rfl (fun K hK => ?_) ?_
              · go_simp
                (refine ⟨trivial, ?_⟩
                 gi_at_call 176
                 refine (callsIn_wide.2 (partAt_any b2 o2 c2 len p 0 L ⟨#[]⟩ W.drew (by show b2 < W.heap.size; omega) (by omega) h0 (by omega) (by omega) (H2.out.below (HB.out.drew) hb2) HU.out)).mono ?_
                 rintro e w4 ⟨g4, cap4, rfl, ho4, hb4⟩
                 have hB4 : Below W.heap.size W w4 := ((Below.refl _ W).drew).trans hb4
                 have c4 := (KL.out w4 hB4).1
                 have HO4 : Hid (OwnsN w4 W.drew.heap.size (.slice (some ⟨g4, 0, none⟩) len cap4) (partL L len p 0 ⟨#[]⟩)) := ho4
                 clear ho4 hb4)
                try (refine hK _ _ ?_; clear hK K)
                refine wpAnyIn_ready (rs := [9]) (by kernel_rfl) (by simp) ?_
                refine AllReadyIn.cons rfl (fun K hK => ?_) ?_
                · go_simp
                  (refine ⟨trivial, ?_⟩
                   gi_at_call 174
                   refine (callsIn_wide.2 (eqPart_any b1 o1 c1 m p en g4 cap4 len X L w4 m80 hen.2.1 hlen (by have := hB4.size; omega) (H1.out.below (HB.out.trans (hB4.mono HB.out.size)) hb1) (owns_nodes HO4.out h0 (by omega)).1 (owns_nodes HO4.out h0 (by omega)).2)).mono ?_
                   rintro e w5 ⟨q, rfl, hq, hb5⟩)
                  try (refine hK _ _ ?_; clear hK K)
                  refine wpAnyIn_done (by kernel_rfl) ?_ _
                  exact hK1 _ _ (Met.intro (hJ _ _ ⟨_, _, _, _, _, _, _, _, _, _, ⟨q, rfl, hit_of hen hq, hB4.trans (hb5.mono hB4.size)⟩, rfl⟩))
                exact AllReadyIn.nil
              exact AllReadyIn.nil
            exact AllReadyIn.nil
          refine AllReadyIn.cons rfl (fun K hK => ?_) ?_
          · go_simp
            try (refine hK _ _ ?_; clear hK K)
            refine wpAnyIn_ready (rs := [4]) (by kernel_rfl) (by simp) ?_
            refine AllReadyIn.cons rfl (fun K hK => ?_) ?_
            · go_simp
              (refine ⟨trivial, ?_⟩
               gi_at_call 175
               refine (callsIn_wide.2 (endOf_any b1 o1 c1 m p X _ hpm (by omega) (H1.out.below (HB.out.drew) hb1))).mono ?_
               rintro e w0 ⟨en, rfl, hen, hw0⟩
               have hw := hw0.symm
               subst hw
               have hen' : (p : Int) ≤ (en : Int) := by have := hen.1; omega
               have hen2 : (en : Int) ≤ (c1 : Int) := by have := hen.2.1; omega)
              try (refine hK _ _ ?_; clear hK K)
              refine wpAnyIn_take (i := 5) (v := .slice (some ⟨b1, o1 + p * 5, none⟩) (en - p) (c1 - p)) rfl rfl (by kernel_rfl) (by kernel_rfl) (by kernel_rfl) (fun _ _ _ h => h) ⟨Or.inl ⟨by rfl, ?_⟩, fun _ => rfl⟩ ?_
              · intro w; go_simp
              refine wpAnyIn_ready (rs := [8]) (by kernel_rfl) (by simp) ?_
              refine AllReadyIn.cons rfl (fun K hK => ?_) ?_
              · go_simp
                (refine ⟨trivial, ?_⟩
                 gi_at_call 176
                 refine (callsIn_wide.2 (partAt_any b2 o2 c2 len p 0 L ⟨#[]⟩ W.drew (by show b2 < W.heap.size; omega) (by omega) h0 (by omega) (by omega) (H2.out.below (HB.out.drew) hb2) HU.out)).mono ?_
                 rintro e w4 ⟨g4, cap4, rfl, ho4, hb4⟩
                 have hB4 : Below W.heap.size W w4 := ((Below.refl _ W).drew).trans hb4
                 have c4 := (KL.out w4 hB4).1
                 have HO4 : Hid (OwnsN w4 W.drew.heap.size (.slice (some ⟨g4, 0, none⟩) len cap4) (partL L len p 0 ⟨#[]⟩)) := ho4
                 clear ho4 hb4)
                try (refine hK _ _ ?_; clear hK K)
                refine wpAnyIn_ready (rs := [9]) (by kernel_rfl) (by simp) ?_
                refine AllReadyIn.cons rfl (fun K hK => ?_) ?_
                · go_simp
                  (refine ⟨trivial, ?_⟩
                   gi_at_call 174
                   refine (callsIn_wide.2 (eqPart_any b1 o1 c1 m p en g4 cap4 len X L w4 m80 hen.2.1 hlen (by have := hB4.size; omega) (H1.out.below (HB.out.trans (hB4.mono HB.out.size)) hb1) (owns_nodes HO4.out h0 (by omega)).1 (owns_nodes HO4.out h0 (by omega)).2)).mono ?_
                   rintro e w5 ⟨q, rfl, hq, hb5⟩)
                  try (refine hK _ _ ?_; clear hK K)
                  refine wpAnyIn_done (by kernel_rfl) ?_ _
                  exact hK1 _ _ (Met.intro (hJ _ _ ⟨_, _, _, _, _, _, _, _, _, _, ⟨q, rfl, hit_of hen hq, hB4.trans (hb5.mono hB4.size)⟩, rfl⟩))
                exact AllReadyIn.nil
              exact AllReadyIn.nil
            exact AllReadyIn.nil
          exact AllReadyIn.nil
        refine AllReadyIn.cons rfl (fun K hK => ?_) ?_
        · go_simp
          try (refine hK _ _ ?_; clear hK K)
          refine wpAnyIn_ready (rs := [2]) (by kernel_rfl) (by simp) ?_
          refine AllReadyIn.cons rfl (fun K hK => ?_) ?_
          · go_simp
            try (refine hK _ _ ?_; clear hK K)
            refine wpAnyIn_ready (rs := [4]) (by kernel_rfl) (by simp) ?_
            refine AllReadyIn.cons rfl (fun K hK => ?_) ?_
            · go_simp
              (refine ⟨trivial, ?_⟩
               gi_at_call 175
               refine (callsIn_wide.2 (endOf_any b1 o1 c1 m p X _ hpm (by omega) (H1.out.below (HB.out.drew) hb1))).mono ?_
               rintro e w0 ⟨en, rfl, hen, hw0⟩
               have hw := hw0.symm
               subst hw
               have hen' : (p : Int) ≤ (en : Int) := by have := hen.1; omega
               have hen2 : (en : Int) ≤ (c1 : Int) := by have := hen.2.1; omega)
              try (refine hK _ _ ?_; clear hK K)
              refine wpAnyIn_take (i := 5) (v := .slice (some ⟨b1, o1 + p * 5, none⟩) (en - p) (c1 - p)) rfl rfl (by kernel_rfl) (by kernel_rfl) (by kernel_rfl) (fun _ _ _ h => h) ⟨Or.inl ⟨by rfl, ?_⟩, fun _ => rfl⟩ ?_
              · intro w; go_simp
              refine wpAnyIn_ready (rs := [8]) (by kernel_rfl) (by simp) ?_
              refine AllReadyIn.cons rfl (fun K hK => ?_) ?_
              · go_simp
                (refine ⟨trivial, ?_⟩
                 gi_at_call 176
                 refine (callsIn_wide.2 (partAt_any b2 o2 c2 len p 0 L ⟨#[]⟩ W.drew (by show b2 < W.heap.size; omega) (by omega) h0 (by omega) (by omega) (H2.out.below (HB.out.drew) hb2) HU.out)).mono ?_
                 rintro e w4 ⟨g4, cap4, rfl, ho4, hb4⟩
                 have hB4 : Below W.heap.size W w4 := ((Below.refl _ W).drew).trans hb4
                 have c4 := (KL.out w4 hB4).1
                 have HO4 : Hid (OwnsN w4 W.drew.heap.size (.slice (some ⟨g4, 0, none⟩) len cap4) (partL L len p 0 ⟨#[]⟩)) := ho4
                 clear ho4 hb4)
                try (refine hK _ _ ?_; clear hK K)
                refine wpAnyIn_ready (rs := [9]) (by kernel_rfl) (by simp) ?_
                refine AllReadyIn.cons rfl (fun K hK => ?_) ?_
                · go_simp
                  (refine ⟨trivial, ?_⟩
                   gi_at_call 174
                   refine (callsIn_wide.2 (eqPart_any b1 o1 c1 m p en g4 cap4 len X L w4 m80 hen.2.1 hlen (by have := hB4.size; omega) (H1.out.below (HB.out.trans (hB4.mono HB.out.size)) hb1) (owns_nodes HO4.out h0 (by omega)).1 (owns_nodes HO4.out h0 (by omega)).2)).mono ?_
                   rintro e w5 ⟨q, rfl, hq, hb5⟩)
                  try (refine hK _ _ ?_; clear hK K)
                  refine wpAnyIn_done (by kernel_rfl) ?_ _
                  exact hK1 _ _ (Met.intro (hJ _ _ ⟨_, _, _, _, _, _, _, _, _, _, ⟨q, rfl, hit_of hen hq, hB4.trans (hb5.mono hB4.size)⟩, rfl⟩))
                exact AllReadyIn.nil
              exact AllReadyIn.nil
            exact AllReadyIn.nil
          exact AllReadyIn.nil
        exact AllReadyIn.nil
      refine AllReadyIn.cons rfl (fun K hK => ?_) ?_
      · go_simp
        try (refine hK _ _ ?_; clear hK K)
        refine wpAnyIn_ready (rs := [0, 4, 6]) (by kernel_rfl) (by simp) ?_
        refine AllReadyIn.cons rfl (fun K hK => ?_) ?_
        · go_simp
          try (refine hK _ _ ?_; clear hK K)
          refine wpAnyIn_ready (rs := [4, 6]) (by kernel_rfl) (by simp) ?_
          refine AllReadyIn.cons rfl (fun K hK => ?_) ?_
          · go_simp
            (refine ⟨trivial, ?_⟩
             gi_at_call 175
             refine (callsIn_wide.2 (endOf_any b1 o1 c1 m p X _ hpm (by omega) (H1.out.below (HB.out.drew) hb1))).mono ?_
             rintro e w0 ⟨en, rfl, hen, hw0⟩
             have hw := hw0.symm
             subst hw
             have hen' : (p : Int) ≤ (en : Int) := by have := hen.1; omega
             have hen2 : (en : Int) ≤ (c1 : Int) := by have := hen.2.1; omega)
            try (refine hK _ _ ?_; clear hK K)
            refine wpAnyIn_take (i := 5) (v := .slice (some ⟨b1, o1 + p * 5, none⟩) (en - p) (c1 - p)) rfl rfl (by kernel_rfl) (by kernel_rfl) (by kernel_rfl) (fun _ _ _ h => h) ⟨Or.inl ⟨by rfl, ?_⟩, fun _ => rfl⟩ ?_
            · intro w; go_simp
            refine wpAnyIn_ready (rs := [6]) (by kernel_rfl) (by simp) ?_
            refine AllReadyIn.cons rfl (fun K hK => ?_) ?_
            · go_simp
              try (refine hK _ _ ?_; clear hK K)
              refine wpAnyIn_ready (rs := [8]) (by kernel_rfl) (by simp) ?_
              refine AllReadyIn.cons rfl (fun K hK => ?_) ?_
              · go_simp
                (refine ⟨trivial, ?_⟩
                 gi_at_call 176
                 refine (callsIn_wide.2 (partAt_any b2 o2 c2 len p 0 L ⟨#[]⟩ W.drew (by show b2 < W.heap.size; omega) (by omega) h0 (by omega) (by omega) (H2.out.below (HB.out.drew) hb2) HU.out)).mono ?_
                 rintro e w4 ⟨g4, cap4, rfl, ho4, hb4⟩
                 have hB4 : Below W.heap.size W w4 := ((Below.refl _ W).drew).trans hb4
                 have c4 := (KL.out w4 hB4).1
                 have HO4 : Hid (OwnsN w4 W.drew.heap.size (.slice (some ⟨g4, 0, none⟩) len cap4) (partL L len p 0 ⟨#[]⟩)) := ho4
                 clear ho4 hb4)
                try (refine hK _ _ ?_; clear hK K)
                refine wpAnyIn_ready (rs := [9]) (by kernel_rfl) (by simp) ?_
                refine AllReadyIn.cons rfl (fun K hK => ?_) ?_
                · go_simp
                  (refine ⟨trivial, ?_⟩
                   gi_at_call 174
                   refine (callsIn_wide.2 (eqPart_any b1 o1 c1 m p en g4 cap4 len X L w4 m80 hen.2.1 hlen (by have := hB4.size; omega) (H1.out.below (HB.out.trans (hB4.mono HB.out.size)) hb1) (owns_nodes HO4.out h0 (by omega)).1 (owns_nodes HO4.out h0 (by omega)).2)).mono ?_
                   rintro e w5 ⟨q, rfl, hq, hb5⟩)
                  try (refine hK _ _ ?_; clear hK K)
                  refine wpAnyIn_done (by kernel_rfl) ?_ _
                  exact hK1 _ _ (Met.intro (hJ _ _ ⟨_, _, _, _, _, _, _, _, _, _, ⟨q, rfl, hit_of hen hq, hB4.trans (hb5.mono hB4.size)⟩, rfl⟩))
                exact AllReadyIn.nil
              exact AllReadyIn.nil
            exact AllReadyIn.nil
          refine AllReadyIn.cons rfl (fun K hK => ?_) ?_
          · go_simp
            try (refine hK _ _ ?_; clear hK K)
            refine wpAnyIn_ready (rs := [4]) (by kernel_rfl) (by simp) ?_
            refine AllReadyIn.cons rfl (fun K hK => ?_) ?_
            · go_simp
              (refine ⟨trivial, ?_⟩
               gi_at_call 175
               refine (callsIn_wide.2 (endOf_any b1 o1 c1 m p X _ hpm (by omega) (H1.out.below (HB.out.drew) hb1))).mono ?_
               rintro e w0 ⟨en, rfl, hen, hw0⟩
               have hw := hw0.symm
               subst hw
               have hen' : (p : Int) ≤ (en : Int) := by have := hen.1; omega
               have hen2 : (en : Int) ≤ (c1 : Int) := by have := hen.2.1; omega)
              try (refine hK _ _ ?_; clear hK K)
              refine wpAnyIn_take (i := 5) (v := .slice (some ⟨b1, o1 + p * 5, none⟩) (en - p) (c1 - p)) rfl rfl (by kernel_rfl) (by kernel_rfl) (by kernel_rfl) (fun _ _ _ h => h) ⟨Or.inl ⟨by rfl, ?_⟩, fun _ => rfl⟩ ?_
              · intro w; go_simp
              refine wpAnyIn_ready (rs := [8]) (by kernel_rfl) (by simp) ?_
              refine AllReadyIn.cons rfl (fun K hK => ?_) ?_
              · go_simp
                (refine ⟨trivial, ?_⟩
                 gi_at_call 176
                 refine (callsIn_wide.2 (partAt_any b2 o2 c2 len p 0 L ⟨#[]⟩ W.drew (by show b2 < W.heap.size; omega) (by omega) h0 (by omega) (by omega) (H2.out.below (HB.out.drew) hb2) HU.out)).mono ?_
                 rintro e w4 ⟨g4, cap4, rfl, ho4, hb4⟩
                 have hB4 : Below W.heap.size W w4 := ((Below.refl _ W).drew).trans hb4
                 have c4 := (KL.out w4 hB4).1
                 have HO4 : Hid (OwnsN w4 W.drew.heap.size (.slice (some ⟨g4, 0, none⟩) len cap4) (partL L len p 0 ⟨#[]⟩)) := ho4
                 clear ho4 hb4)
                try (refine hK _ _ ?_; clear hK K)
                refine wpAnyIn_ready (rs := [9]) (by kernel_rfl) (by simp) ?_
                refine AllReadyIn.cons rfl (fun K hK => ?_) ?_
                · go_simp
                  (refine ⟨trivial, ?_⟩
                   gi_at_call 174
                   refine (callsIn_wide.2 (eqPart_any b1 o1 c1 m p en g4 cap4 len X L w4 m80 hen.2.1 hlen (by have := hB4.size; omega) (H1.out.below (HB.out.trans (hB4.mono HB.out.size)) hb1) (owns_nodes HO4.out h0 (by omega)).1 (owns_nodes HO4.out h0 (by omega)).2)).mono ?_
                   rintro e w5 ⟨q, rfl, hq, hb5⟩)
                  try (refine hK _ _ ?_; clear hK K)
                  refine wpAnyIn_done (by kernel_rfl) ?_ _
                  exact hK1 _ _ (Met.intro (hJ _ _ ⟨_, _, _, _, _, _, _, _, _, _, ⟨q, rfl, hit_of hen hq, hB4.trans (hb5.mono hB4.size)⟩, rfl⟩))
                exact AllReadyIn.nil
              exact AllReadyIn.nil
            exact AllReadyIn.nil
          exact AllReadyIn.nil
        refine AllReadyIn.cons rfl (fun K hK => ?_) ?_
        · go_simp
          (refine ⟨trivial, ?_⟩
           gi_at_call 175
           refine (callsIn_wide.2 (endOf_any b1 o1 c1 m p X _ hpm (by omega) (H1.out.below (HB.out.drew) hb1))).mono ?_
           rintro e w0 ⟨en, rfl, hen, hw0⟩
           have hw := hw0.symm
           subst hw
           have hen' : (p : Int) ≤ (en : Int) := by have := hen.1; omega
           have hen2 : (en : Int) ≤ (c1 : Int) := by have := hen.2.1; omega)
          try (refine hK _ _ ?_; clear hK K)
          refine wpAnyIn_ready (rs := [0, 6]) (by kernel_rfl) (by simp) ?_
          refine AllReadyIn.cons rfl (fun K hK => ?_) ?_
          · go_simp
            try (refine hK _ _ ?_; clear hK K)
            refine wpAnyIn_take (i := 5) (v := .slice (some ⟨b1, o1 + p * 5, none⟩) (en - p) (c1 - p)) rfl rfl (by kernel_rfl) (by kernel_rfl) (by kernel_rfl) (fun _ _ _ h => h) ⟨Or.inl ⟨by rfl, ?_⟩, fun _ => rfl⟩ ?_
            · intro w; go_simp
            refine wpAnyIn_ready (rs := [6]) (by kernel_rfl) (by simp) ?_
            refine AllReadyIn.cons rfl (fun K hK => ?_) ?_
            · go_simp
              try (refine hK _ _ ?_; clear hK K)
              refine wpAnyIn_ready (rs := [8]) (by kernel_rfl) (by simp) ?_
              refine AllReadyIn.cons rfl (fun K hK => ?_) ?_
              · go_simp
                (refine ⟨trivial, ?_⟩
                 gi_at_call 176
                 refine (callsIn_wide.2 (partAt_any b2 o2 c2 len p 0 L ⟨#[]⟩ W.drew (by show b2 < W.heap.size; omega) (by omega) h0 (by omega) (by omega) (H2.out.below (HB.out.drew) hb2) HU.out)).mono ?_
                 rintro e w4 ⟨g4, cap4, rfl, ho4, hb4⟩
                 have hB4 : Below W.heap.size W w4 := ((Below.refl _ W).drew).trans hb4
                 have c4 := (KL.out w4 hB4).1
                 have HO4 : Hid (OwnsN w4 W.drew.heap.size (.slice (some ⟨g4, 0, none⟩) len cap4) (partL L len p 0 ⟨#[]⟩)) := ho4
                 clear ho4 hb4)
                try (refine hK _ _ ?_; clear hK K)
                refine wpAnyIn_ready (rs := [9]) (by kernel_rfl) (by simp) ?_
                refine AllReadyIn.cons rfl (fun K hK => ?_) ?_
                · go_simp
                  (refine ⟨trivial, ?_⟩
                   gi_at_call 174
                   refine (callsIn_wide.2 (eqPart_any b1 o1 c1 m p en g4 cap4 len X L w4 m80 hen.2.1 hlen (by have := hB4.size; omega) (H1.out.below (HB.out.trans (hB4.mono HB.out.size)) hb1) (owns_nodes HO4.out h0 (by omega)).1 (owns_nodes HO4.out h0 (by omega)).2)).mono ?_
                   rintro e w5 ⟨q, rfl, hq, hb5⟩)
                  try (refine hK _ _ ?_; clear hK K)
                  refine wpAnyIn_done (by kernel_rfl) ?_ _
                  exact hK1 _ _ (Met.intro (hJ _ _ ⟨_, _, _, _, _, _, _, _, _, _, ⟨q, rfl, hit_of hen hq, hB4.trans (hb5.mono hB4.size)⟩, rfl⟩))
                exact AllReadyIn.nil
              exact AllReadyIn.nil
            exact AllReadyIn.nil
          refine AllReadyIn.cons rfl (fun K hK => ?_) ?_
          · go_simp
            try (refine hK _ _ ?_; clear hK K)
            refine wpAnyIn_ready (rs := [0, 8]) (by kernel_rfl) (by simp) ?_
            refine AllReadyIn.cons rfl (fun K hK => ?_) ?_
            · go_simp
              try (refine hK _ _ ?_; clear hK K)
              refine wpAnyIn_take (i := 5) (v := .slice (some ⟨b1, o1 + p * 5, none⟩) (en - p) (c1 - p)) rfl rfl (by kernel_rfl) (by kernel_rfl) (by kernel_rfl) (fun _ _ _ h => h) ⟨Or.inl ⟨by rfl, ?_⟩, fun _ => rfl⟩ ?_
              · intro w; go_simp
              refine wpAnyIn_ready (rs := [8]) (by kernel_rfl) (by simp) ?_
              refine AllReadyIn.cons rfl (fun K hK => ?_) ?_
              · go_simp
                (refine ⟨trivial, ?_⟩
                 gi_at_call 176
                 refine (callsIn_wide.2 (partAt_any b2 o2 c2 len p 0 L ⟨#[]⟩ W.drew (by show b2 < W.heap.size; omega) (by omega) h0 (by omega) (by omega) (H2.out.below (HB.out.drew) hb2) HU.out)).mono ?_
                 rintro e w4 ⟨g4, cap4, rfl, ho4, hb4⟩
                 have hB4 : Below W.heap.size W w4 := ((Below.refl _ W).drew).trans hb4
                 have c4 := (KL.out w4 hB4).1
                 have HO4 : Hid (OwnsN w4 W.drew.heap.size (.slice (some ⟨g4, 0, none⟩) len cap4) (partL L len p 0 ⟨#[]⟩)) := ho4
                 clear ho4 hb4)
                try (refine hK _ _ ?_; clear hK K)
                refine wpAnyIn_ready (rs := [9]) (by kernel_rfl) (by simp) ?_
                refine AllReadyIn.cons rfl (fun K hK => ?_) ?_
                · go_simp
                  (refine ⟨trivial, ?_⟩
                   gi_at_call 174
                   refine (callsIn_wide.2 (eqPart_any b1 o1 c1 m p en g4 cap4 len X L w4 m80 hen.2.1 hlen (by have := hB4.size; omega) (H1.out.below (HB.out.trans (hB4.mono HB.out.size)) hb1) (owns_nodes HO4.out h0 (by omega)).1 (owns_nodes HO4.out h0 (by omega)).2)).mono ?_
                   rintro e w5 ⟨q, rfl, hq, hb5⟩)
                  try (refine hK _ _ ?_; clear hK K)
                  refine wpAnyIn_done (by kernel_rfl) ?_ _
                  exact hK1 _ _ (Met.intro (hJ _ _ ⟨_, _, _, _, _, _, _, _, _, _, ⟨q, rfl, hit_of hen hq, hB4.trans (hb5.mono hB4.size)⟩, rfl⟩))
                exact AllReadyIn.nil
              exact AllReadyIn.nil
            refine AllReadyIn.cons rfl (fun K hK => ?_) ?_
            · go_simp
              (refine ⟨trivial, ?_⟩
               gi_at_call 176
               refine (callsIn_wide.2 (partAt_any b2 o2 c2 len p 0 L ⟨#[]⟩ W.drew (by show b2 < W.heap.size; omega) (by omega) h0 (by omega) (by omega) (H2.out.below (HB.out.drew) hb2) HU.out)).mono ?_
               rintro e w4 ⟨g4, cap4, rfl, ho4, hb4⟩
               have hB4 : Below W.heap.size W w4 := ((Below.refl _ W).drew).trans hb4
               have c4 := (KL.out w4 hB4).1
               have HO4 : Hid (OwnsN w4 W.drew.heap.size (.slice (some ⟨g4, 0, none⟩) len cap4) (partL L len p 0 ⟨#[]⟩)) := ho4
               clear ho4 hb4)
              try (refine hK _ _ ?_; clear hK K)
              refine wpAnyIn_ready (rs := [0]) (by kernel_rfl) (by simp) ?_
              refine AllReadyIn.cons rfl (fun K hK => ?_) ?_
              · go_simp
                try (refine hK _ _ ?_; clear hK K)
                refine wpAnyIn_take (i := 5) (v := .slice (some ⟨b1, o1 + p * 5, none⟩) (en - p) (c1 - p)) rfl rfl (by kernel_rfl) (by kernel_rfl) (by kernel_rfl) (fun _ _ _ h => h) ⟨Or.inl ⟨by rfl, ?_⟩, fun _ => rfl⟩ ?_
                · intro w; go_simp
                refine wpAnyIn_ready (rs := [9]) (by kernel_rfl) (by simp) ?_
                refine AllReadyIn.cons rfl (fun K hK => ?_) ?_
                · go_simp
                  (refine ⟨trivial, ?_⟩
                   gi_at_call 174
                   refine (callsIn_wide.2 (eqPart_any b1 o1 c1 m p en g4 cap4 len X L w4 m80 hen.2.1 hlen (by have := hB4.size; omega) (H1.out.below (HB.out.trans (hB4.mono HB.out.size)) hb1) (owns_nodes HO4.out h0 (by omega)).1 (owns_nodes HO4.out h0 (by omega)).2)).mono ?_
                   rintro e w5 ⟨q, rfl, hq, hb5⟩)
                  try (refine hK _ _ ?_; clear hK K)
                  refine wpAnyIn_done (by kernel_rfl) ?_ _
                  exact hK1 _ _ (Met.intro (hJ _ _ ⟨_, _, _, _, _, _, _, _, _, _, ⟨q, rfl, hit_of hen hq, hB4.trans (hb5.mono hB4.size)⟩, rfl⟩))
                exact AllReadyIn.nil
              exact AllReadyIn.nil
            exact AllReadyIn.nil
          exact AllReadyIn.nil
        refine AllReadyIn.cons rfl (fun K hK => ?_) ?_
        · go_simp
          try (refine hK _ _ ?_; clear hK K)
          refine wpAnyIn_ready (rs := [0, 4]) (by kernel_rfl) (by simp) ?_
          refine AllReadyIn.cons rfl (fun K hK => ?_) ?_
          · go_simp
            try (refine hK _ _ ?_; clear hK K)
            refine wpAnyIn_ready (rs := [4]) (by kernel_rfl) (by simp) ?_
            refine AllReadyIn.cons rfl (fun K hK => ?_) ?_
            · go_simp
              (refine ⟨trivial, ?_⟩
               gi_at_call 175
               refine (callsIn_wide.2 (endOf_any b1 o1 c1 m p X _ hpm (by omega) (H1.out.below (HB.out.drew) hb1))).mono ?_
               rintro e w0 ⟨en, rfl, hen, hw0⟩
               have hw := hw0.symm
               subst hw
               have hen' : (p : Int) ≤ (en : Int) := by have := hen.1; omega
               have hen2 : (en : Int) ≤ (c1 : Int) := by have := hen.2.1; omega)
              try (refine hK _ _ ?_; clear hK K)
              refine wpAnyIn_take (i := 5) (v := .slice (some ⟨b1, o1 + p * 5, none⟩) (en - p) (c1 - p)) rfl rfl (by kernel_rfl) (by kernel_rfl) (by kernel_rfl) (fun _ _ _ h => h) ⟨Or.inl ⟨by rfl, ?_⟩, fun _ => rfl⟩ ?_
              · intro w; go_simp
              refine wpAnyIn_ready (rs := [8]) (by kernel_rfl) (by simp) ?_
              refine AllReadyIn.cons rfl (fun K hK => ?_) ?_
              · go_simp
                (refine ⟨trivial, ?_⟩
                 gi_at_call 176
                 refine (callsIn_wide.2 (partAt_any b2 o2 c2 len p 0 L ⟨#[]⟩ W.drew (by show b2 < W.heap.size; omega) (by omega) h0 (by omega) (by omega) (H2.out.below (HB.out.drew) hb2) HU.out)).mono ?_
                 rintro e w4 ⟨g4, cap4, rfl, ho4, hb4⟩
                 have hB4 : Below W.heap.size W w4 := ((Below.refl _ W).drew).trans hb4
                 have c4 := (KL.out w4 hB4).1
                 have HO4 : Hid (OwnsN w4 W.drew.heap.size (.slice (some ⟨g4, 0, none⟩) len cap4) (partL L len p 0 ⟨#[]⟩)) := ho4
                 clear ho4 hb4)
                try (refine hK _ _ ?_; clear hK K)
                refine wpAnyIn_ready (rs := [9]) (by kernel_rfl) (by simp) ?_
                refine AllReadyIn.cons rfl (fun K hK => ?_) ?_
                · go_simp
                  (refine ⟨trivial, ?_⟩
                   gi_at_call 174
                   refine (callsIn_wide.2 (eqPart_any b1 o1 c1 m p en g4 cap4 len X L w4 m80 hen.2.1 hlen (by have := hB4.size; omega) (H1.out.below (HB.out.trans (hB4.mono HB.out.size)) hb1) (owns_nodes HO4.out h0 (by omega)).1 (owns_nodes HO4.out h0 (by omega)).2)).mono ?_
                   rintro e w5 ⟨q, rfl, hq, hb5⟩)
                  try (refine hK _ _ ?_; clear hK K)
                  refine wpAnyIn_done (by kernel_rfl) ?_ _
                  exact hK1 _ _ (Met.intro (hJ _ _ ⟨_, _, _, _, _, _, _, _, _, _, ⟨q, rfl, hit_of hen hq, hB4.trans (hb5.mono hB4.size)⟩, rfl⟩))
                exact AllReadyIn.nil
              exact AllReadyIn.nil
            exact AllReadyIn.nil
          refine AllReadyIn.cons rfl (fun K hK => ?_) ?_
          · go_simp
            (refine ⟨trivial, ?_⟩
             gi_at_call 175
             refine (callsIn_wide.2 (endOf_any b1 o1 c1 m p X _ hpm (by omega) (H1.out.below (HB.out.drew) hb1))).mono ?_
             rintro e w0 ⟨en, rfl, hen, hw0⟩
             have hw := hw0.symm
             subst hw
             have hen' : (p : Int) ≤ (en : Int) := by have := hen.1; omega
             have hen2 : (en : Int) ≤ (c1 : Int) := by have := hen.2.1; omega)
            try (refine hK _ _ ?_; clear hK K)
            refine wpAnyIn_ready (rs := [0, 8]) (by kernel_rfl) (by simp) ?_
            refine AllReadyIn.cons rfl (fun K hK => ?_) ?_
            · go_simp
              try (refine hK _ _ ?_; clear hK K)
              refine wpAnyIn_take (i := 5) (v := .slice (some ⟨b1, o1 + p * 5, none⟩) (en - p) (c1 - p)) rfl rfl (by kernel_rfl) (by kernel_rfl) (by kernel_rfl) (fun _ _ _ h => h) ⟨Or.inl ⟨by rfl, ?_⟩, fun _ => rfl⟩ ?_
              · intro w; go_simp
              refine wpAnyIn_ready (rs := [8]) (by kernel_rfl) (by simp) ?_
              refine AllReadyIn.cons rfl (fun K hK => ?_) ?_
              · go_simp
                (refine ⟨trivial, ?_⟩
                 gi_at_call 176
                 refine (callsIn_wide.2 (partAt_any b2 o2 c2 len p 0 L ⟨#[]⟩ W.drew (by show b2 < W.heap.size; omega) (by omega) h0 (by omega) (by omega) (H2.out.below (HB.out.drew) hb2) HU.out)).mono ?_
                 rintro e w4 ⟨g4, cap4, rfl, ho4, hb4⟩
                 have hB4 : Below W.heap.size W w4 := ((Below.refl _ W).drew).trans hb4
                 have c4 := (KL.out w4 hB4).1
                 have HO4 : Hid (OwnsN w4 W.drew.heap.size (.slice (some ⟨g4, 0, none⟩) len cap4) (partL L len p 0 ⟨#[]⟩)) := ho4
                 clear ho4 hb4)
                try (refine hK _ _ ?_; clear hK K)
                refine wpAnyIn_ready (rs := [9]) (by kernel_rfl) (by simp) ?_
                refine AllReadyIn.cons rfl (fun K hK => ?_) ?_
                · go_simp
                  (refine ⟨trivial, ?_⟩
                   gi_at_call 174
                   refine (callsIn_wide.2 (eqPart_any b1 o1 c1 m p en g4 cap4 len X L w4 m80 hen.2.1 hlen (by have := hB4.size; omega) (H1.out.below (HB.out.trans (hB4.mono HB.out.size)) hb1) (owns_nodes HO4.out h0 (by omega)).1 (owns_nodes HO4.out h0 (by omega)).2)).mono ?_
                   rintro e w5 ⟨q, rfl, hq, hb5⟩)
                  try (refine hK _ _ ?_; clear hK K)
                  refine wpAnyIn_done (by kernel_rfl) ?_ _
                  exact hK1 _ _ (Met.intro (hJ _ _ ⟨_, _, _, _, _, _, _, _, _, _, ⟨q, rfl, hit_of hen hq, hB4.trans (hb5.mono hB4.size)⟩, rfl⟩))
                exact AllReadyIn.nil
              exact AllReadyIn.nil
            refine AllReadyIn.cons rfl (fun K hK => ?_) ?_
            · go_simp
              (refine ⟨trivial, ?_⟩
               gi_at_call 176
               refine (callsIn_wide.2 (partAt_any b2 o2 c2 len p 0 L ⟨#[]⟩ W.drew (by show b2 < W.heap.size; omega) (by omega) h0 (by omega) (by omega) (H2.out.below (HB.out.drew) hb2) HU.out)).mono ?_
               rintro e w4 ⟨g4, cap4, rfl, ho4, hb4⟩
               have hB4 : Below W.heap.size W w4 := ((Below.refl _ W).drew).trans hb4
               have c4 := (KL.out w4 hB4).1
               have HO4 : Hid (OwnsN w4 W.drew.heap.size (.slice (some ⟨g4, 0, none⟩) len cap4) (partL L len p 0 ⟨#[]⟩)) := ho4
               clear ho4 hb4)
              try (refine hK _ _ ?_; clear hK K)
              refine wpAnyIn_ready (rs := [0]) (by kernel_rfl) (by simp) ?_
              refine AllReadyIn.cons rfl (fun K hK => ?_) ?_
              · go_simp
                try (refine hK _ _ ?_; clear hK K)
                refine wpAnyIn_take (i := 5) (v := .slice (some ⟨b1, o1 + p * 5, none⟩) (en - p) (c1 - p)) rfl rfl (by kernel_rfl) (by kernel_rfl) (by kernel_rfl) (fun _ _ _ h => h) ⟨Or.inl ⟨by rfl, ?_⟩, fun _ => rfl⟩ ?_
                · intro w; go_simp
                refine wpAnyIn_ready (rs := [9]) (by kernel_rfl) (by simp) ?_
                refine AllReadyIn.cons rfl (fun K hK => ?_) ?_
                · go_simp
                  (refine ⟨trivial, ?_⟩
                   gi_at_call 174
                   refine (callsIn_wide.2 (eqPart_any b1 o1 c1 m p en g4 cap4 len X L w4 m80 hen.2.1 hlen (by have := hB4.size; omega) (H1.out.below (HB.out.trans (hB4.mono HB.out.size)) hb1) (owns_nodes HO4.out h0 (by omega)).1 (owns_nodes HO4.out h0 (by omega)).2)).mono ?_
                   rintro e w5 ⟨q, rfl, hq, hb5⟩)
                  try (refine hK _ _ ?_; clear hK K)
                  refine wpAnyIn_done (by kernel_rfl) ?_ _
                  exact hK1 _ _ (Met.intro (hJ _ _ ⟨_, _, _, _, _, _, _, _, _, _, ⟨q, rfl, hit_of hen hq, hB4.trans (hb5.mono hB4.size)⟩, rfl⟩))
                exact AllReadyIn.nil
              exact AllReadyIn.nil
            exact AllReadyIn.nil
          exact AllReadyIn.nil
        exact AllReadyIn.nil
      refine AllReadyIn.cons rfl (fun K hK => ?_) ?_
      · go_simp
        try (refine hK _ _ ?_; clear hK K)
        refine wpAnyIn_ready (rs := [0, 2]) (by kernel_rfl) (by simp) ?_
        refine AllReadyIn.cons rfl (fun K hK => ?_) ?_
        · go_simp
          try (refine hK _ _ ?_; clear hK K)
          refine wpAnyIn_ready (rs := [2]) (by kernel_rfl) (by simp) ?_
          refine AllReadyIn.cons rfl (fun K hK => ?_) ?_
          · go_simp
            try (refine hK _ _ ?_; clear hK K)
            refine wpAnyIn_ready (rs := [4]) (by kernel_rfl) (by simp) ?_
            refine AllReadyIn.cons rfl (fun K hK => ?_) ?_
            · go_simp
              (refine ⟨trivial, ?_⟩
               gi_at_call 175
               refine (callsIn_wide.2 (endOf_any b1 o1 c1 m p X _ hpm (by omega) (H1.out.below (HB.out.drew) hb1))).mono ?_
               rintro e w0 ⟨en, rfl, hen, hw0⟩
               have hw := hw0.symm
               subst hw
               have hen' : (p : Int) ≤ (en : Int) := by have := hen.1; omega
               have hen2 : (en : Int) ≤ (c1 : Int) := by have := hen.2.1; omega)
              try (refine hK _ _ ?_; clear hK K)
              refine wpAnyIn_take (i := 5) (v := .slice (some ⟨b1, o1 + p * 5, none⟩) (en - p) (c1 - p)) rfl rfl (by kernel_rfl) (by kernel_rfl) (by kernel_rfl) (fun _ _ _ h => h) ⟨Or.inl ⟨by rfl, ?_⟩, fun _ => rfl⟩ ?_
              · intro w; go_simp
              refine wpAnyIn_ready (rs := [8]) (by kernel_rfl) (by simp) ?_
              refine AllReadyIn.cons rfl (fun K hK => ?_) ?_
              · go_simp
                (refine ⟨trivial, ?_⟩
                 gi_at_call 176
                 refine (callsIn_wide.2 (partAt_any b2 o2 c2 len p 0 L ⟨#[]⟩ W.drew (by show b2 < W.heap.size; omega) (by omega) h0 (by omega) (by omega) (H2.out.below (HB.out.drew) hb2) HU.out)).mono ?_
                 rintro e w4 ⟨g4, cap4, rfl, ho4, hb4⟩
                 have hB4 : Below W.heap.size W w4 := ((Below.refl _ W).drew).trans hb4
                 have c4 := (KL.out w4 hB4).1
                 have HO4 : Hid (OwnsN w4 W.drew.heap.size (.slice (some ⟨g4, 0, none⟩) len cap4) (partL L len p 0 ⟨#[]⟩)) := ho4
                 clear ho4 hb4)
                try (refine hK _ _ ?_; clear hK K)
                refine wpAnyIn_ready (rs := [9]) (by kernel_rfl) (by simp) ?_
                refine AllReadyIn.cons rfl (fun K hK => ?_) ?_
                · go_simp
                  (refine ⟨trivial, ?_⟩
                   gi_at_call 174
                   refine (callsIn_wide.2 (eqPart_any b1 o1 c1 m p en g4 cap4 len X L w4 m80 hen.2.1 hlen (by have := hB4.size; omega) (H1.out.below (HB.out.trans (hB4.mono HB.out.size)) hb1) (owns_nodes HO4.out h0 (by omega)).1 (owns_nodes HO4.out h0 (by omega)).2)).mono ?_
                   rintro e w5 ⟨q, rfl, hq, hb5⟩)
                  try (refine hK _ _ ?_; clear hK K)
                  refine wpAnyIn_done (by kernel_rfl) ?_ _
                  exact hK1 _ _ (Met.intro (hJ _ _ ⟨_, _, _, _, _, _, _, _, _, _, ⟨q, rfl, hit_of hen hq, hB4.trans (hb5.mono hB4.size)⟩, rfl⟩))
                exact AllReadyIn.nil
              exact AllReadyIn.nil
            exact AllReadyIn.nil
          exact AllReadyIn.nil
        refine AllReadyIn.cons rfl (fun K hK => ?_) ?_
        · go_simp
          try (refine hK _ _ ?_; clear hK K)
          refine wpAnyIn_ready (rs := [0, 4]) (by kernel_rfl) (by simp) ?_
          refine AllReadyIn.cons rfl (fun K hK => ?_) ?_
          · go_simp
            try (refine hK _ _ ?_; clear hK K)
            refine wpAnyIn_ready (rs := [4]) (by kernel_rfl) (by simp) ?_
            refine AllReadyIn.cons rfl (fun K hK => ?_) ?_
            · go_simp
              (refine ⟨trivial, ?_⟩
               gi_at_call 175
               refine (callsIn_wide.2 (endOf_any b1 o1 c1 m p X _ hpm (by omega) (H1.out.below (HB.out.drew) hb1))).mono ?_
               rintro e w0 ⟨en, rfl, hen, hw0⟩
               have hw := hw0.symm
               subst hw
               have hen' : (p : Int) ≤ (en : Int) := by have := hen.1; omega
               have hen2 : (en : Int) ≤ (c1 : Int) := by have := hen.2.1; omega)
              try (refine hK _ _ ?_; clear hK K)
              refine wpAnyIn_take (i := 5) (v := .slice (some ⟨b1, o1 + p * 5, none⟩) (en - p) (c1 - p)) rfl rfl (by kernel_rfl) (by kernel_rfl) (by kernel_rfl) (fun _ _ _ h => h) ⟨Or.inl ⟨by rfl, ?_⟩, fun _ => rfl⟩ ?_
              · intro w; go_simp
              refine wpAnyIn_ready (rs := [8]) (by kernel_rfl) (by simp) ?_
              refine AllReadyIn.cons rfl (fun K hK => ?_) ?_
              · go_simp
                (refine ⟨trivial, ?_⟩
                 gi_at_call 176
                 refine (callsIn_wide.2 (partAt_any b2 o2 c2 len p 0 L ⟨#[]⟩ W.drew (by show b2 < W.heap.size; omega) (by omega) h0 (by omega) (by omega) (H2.out.below (HB.out.drew) hb2) HU.out)).mono ?_
                 rintro e w4 ⟨g4, cap4, rfl, ho4, hb4⟩
                 have hB4 : Below W.heap.size W w4 := ((Below.refl _ W).drew).trans hb4
                 have c4 := (KL.out w4 hB4).1
                 have HO4 : Hid (OwnsN w4 W.drew.heap.size (.slice (some ⟨g4, 0, none⟩) len cap4) (partL L len p 0 ⟨#[]⟩)) := ho4
                 clear ho4 hb4)
                try (refine hK _ _ ?_; clear hK K)
                refine wpAnyIn_ready (rs := [9]) (by kernel_rfl) (by simp) ?_
                refine AllReadyIn.cons rfl (fun K hK => ?_) ?_
                · go_simp
                  (refine ⟨trivial, ?_⟩
                   gi_at_call 174
                   refine (callsIn_wide.2 (eqPart_any b1 o1 c1 m p en g4 cap4 len X L w4 m80 hen.2.1 hlen (by have := hB4.size; omega) (H1.out.below (HB.out.trans (hB4.mono HB.out.size)) hb1) (owns_nodes HO4.out h0 (by omega)).1 (owns_nodes HO4.out h0 (by omega)).2)).mono ?_
                   rintro e w5 ⟨q, rfl, hq, hb5⟩)
                  try (refine hK _ _ ?_; clear hK K)
                  refine wpAnyIn_done (by kernel_rfl) ?_ _
                  exact hK1 _ _ (Met.intro (hJ _ _ ⟨_, _, _, _, _, _, _, _, _, _, ⟨q, rfl, hit_of hen hq, hB4.trans (hb5.mono hB4.size)⟩, rfl⟩))
                exact AllReadyIn.nil
              exact AllReadyIn.nil
            exact AllReadyIn.nil
          refine AllReadyIn.cons rfl (fun K hK => ?_) ?_
          · go_simp
            (refine ⟨trivial, ?_⟩
             gi_at_call 175
             refine (callsIn_wide.2 (endOf_any b1 o1 c1 m p X _ hpm (by omega) (H1.out.below (HB.out.drew) hb1))).mono ?_
             rintro e w0 ⟨en, rfl, hen, hw0⟩
             have hw := hw0.symm
             subst hw
             have hen' : (p : Int) ≤ (en : Int) := by have := hen.1; omega
             have hen2 : (en : Int) ≤ (c1 : Int) := by have := hen.2.1; omega)
            try (refine hK _ _ ?_; clear hK K)
            refine wpAnyIn_ready (rs := [0, 8]) (by kernel_rfl) (by simp) ?_
            refine AllReadyIn.cons rfl (fun K hK => ?_) ?_
            · go_simp
              try (refine hK _ _ ?_; clear hK K)
              refine wpAnyIn_take (i := 5) (v := .slice (some ⟨b1, o1 + p * 5, none⟩) (en - p) (c1 - p)) rfl rfl (by kernel_rfl) (by kernel_rfl) (by kernel_rfl) (fun _ _ _ h => h) ⟨Or.inl ⟨by rfl, ?_⟩, fun _ => rfl⟩ ?_
              · intro w; go_simp
              refine wpAnyIn_ready (rs := [8]) (by kernel_rfl) (by simp) ?_
              refine AllReadyIn.cons rfl (fun K hK => ?_) ?_
              · go_simp
                (refine ⟨trivial, ?_⟩
                 gi_at_call 176
                 refine (callsIn_wide.2 (partAt_any b2 o2 c2 len p 0 L ⟨#[]⟩ W.drew (by show b2 < W.heap.size; omega) (by omega) h0 (by omega) (by omega) (H2.out.below (HB.out.drew) hb2) HU.out)).mono ?_
                 rintro e w4 ⟨g4, cap4, rfl, ho4, hb4⟩
                 have hB4 : Below W.heap.size W w4 := ((Below.refl _ W).drew).trans hb4
                 have c4 := (KL.out w4 hB4).1
                 have HO4 : Hid (OwnsN w4 W.drew.heap.size (.slice (some ⟨g4, 0, none⟩) len cap4) (partL L len p 0 ⟨#[]⟩)) := ho4
                 clear ho4 hb4)
                try (refine hK _ _ ?_; clear hK K)
                refine wpAnyIn_ready (rs := [9]) (by kernel_rfl) (by simp) ?_
                refine AllReadyIn.cons rfl (fun K hK => ?_) ?_
                · go_simp
                  (refine ⟨trivial, ?_⟩
                   gi_at_call 174
                   refine (callsIn_wide.2 (eqPart_any b1 o1 c1 m p en g4 cap4 len X L w4 m80 hen.2.1 hlen (by have := hB4.size; omega) (H1.out.below (HB.out.trans (hB4.mono HB.out.size)) hb1) (owns_nodes HO4.out h0 (by omega)).1 (owns_nodes HO4.out h0 (by omega)).2)).mono ?_
                   rintro e w5 ⟨q, rfl, hq, hb5⟩)
                  try (refine hK _ _ ?_; clear hK K)
                  refine wpAnyIn_done (by kernel_rfl) ?_ _
                  exact hK1 _ _ (Met.intro (hJ _ _ ⟨_, _, _, _, _, _, _, _, _, _, ⟨q, rfl, hit_of hen hq, hB4.trans (hb5.mono hB4.size)⟩, rfl⟩))
                exact AllReadyIn.nil
              exact AllReadyIn.nil
            refine AllReadyIn.cons rfl (fun K hK => ?_) ?_
            · go_simp
              (refine ⟨trivial, ?_⟩
               gi_at_call 176
               refine (callsIn_wide.2 (partAt_any b2 o2 c2 len p 0 L ⟨#[]⟩ W.drew (by show b2 < W.heap.size; omega) (by omega) h0 (by omega) (by omega) (H2.out.below (HB.out.drew) hb2) HU.out)).mono ?_
               rintro e w4 ⟨g4, cap4, rfl, ho4, hb4⟩
               have hB4 : Below W.heap.size W w4 := ((Below.refl _ W).drew).trans hb4
               have c4 := (KL.out w4 hB4).1
               have HO4 : Hid (OwnsN w4 W.drew.heap.size (.slice (some ⟨g4, 0, none⟩) len cap4) (partL L len p 0 ⟨#[]⟩)) := ho4
               clear ho4 hb4)
              try (refine hK _ _ ?_; clear hK K)
              refine wpAnyIn_ready (rs := [0]) (by kernel_rfl) (by simp) ?_
              refine AllReadyIn.cons rfl (fun K hK => ?_) ?_
              · go_simp
                try (refine hK _ _ ?_; clear hK K)
                refine wpAnyIn_take (i := 5) (v := .slice (some ⟨b1, o1 + p * 5, none⟩) (en - p) (c1 - p)) rfl rfl (by kernel_rfl) (by kernel_rfl) (by kernel_rfl) (fun _ _ _ h => h) ⟨Or.inl ⟨by rfl, ?_⟩, fun _ => rfl⟩ ?_
                · intro w; go_simp
                refine wpAnyIn_ready (rs := [9]) (by kernel_rfl) (by simp) ?_
                refine AllReadyIn.cons rfl (fun K hK => ?_) ?_
                · go_simp
                  (refine ⟨trivial, ?_⟩
                   gi_at_call 174
                   refine (callsIn_wide.2 (eqPart_any b1 o1 c1 m p en g4 cap4 len X L w4 m80 hen.2.1 hlen (by have := hB4.size; omega) (H1.out.below (HB.out.trans (hB4.mono HB.out.size)) hb1) (owns_nodes HO4.out h0 (by omega)).1 (owns_nodes HO4.out h0 (by omega)).2)).mono ?_
                   rintro e w5 ⟨q, rfl, hq, hb5⟩)
                  try (refine hK _ _ ?_; clear hK K)
                  refine wpAnyIn_done (by kernel_rfl) ?_ _
                  exact hK1 _ _ (Met.intro (hJ _ _ ⟨_, _, _, _, _, _, _, _, _, _, ⟨q, rfl, hit_of hen hq, hB4.trans (hb5.mono hB4.size)⟩, rfl⟩))
                exact AllReadyIn.nil
              exact AllReadyIn.nil
            exact AllReadyIn.nil
          exact AllReadyIn.nil
        exact AllReadyIn.nil
      exact AllReadyIn.nil
    case rest =>
      obtain ⟨q, rfl, HQ⟩ := hcut
      obtain ⟨hqh, hbc⟩ := HQ.out
      have zc := hbc.size
      have bL4 : Boxed wc w.heap.size 36 (.slice (some ⟨b1, o1, none⟩) m c1) := (hbc.block _ hbL.lt).trans hbL
      have bX4 : Boxed wc (w.heap.size + 1) 36 (.slice (some ⟨b2, o2, none⟩) len c2) := (hbc.block _ hbX.lt).trans hbX
      have bQ4 : Boxed wc (w.heap.size + 1 + 1) 4 (.bool false) := (hbc.block _ hbQ.lt).trans hbQ
      have hB4 : Below w.heap.size w wc := HB.out.trans (hbc.mono HB.out.size)
      have HK4 : Hid (KeepsOthers W wc ∧ Keep3 b1 (w.heap.size + 1 + 1 + 1) (w.heap.size + 1 + 1 + 1 + 1) W wc) := ⟨below_othersP hbc, Keep3.of hbc (by omega) (by omega) (by omega)⟩
      have HQH : Hid (q = true ↔ HitP X m L len p) := hqh
      clear hqh hbc HQ hbL hbX hbQ cL cX KL
      cases q with
      | true =>
        have HH : Hid (HitP X m L len p) := HQH.out.1 rfl
        have cQ := bQ4.cell
        have fQ := bQ4.frozen
        have hQ5 := bQ4.set (.bool true)
        gi_wp2
        exact ⟨(HK4.out.1.trans (KeepsOthers.setCell _ _ _)).from _, ⟨⟨rfl, ⟨⟨(nm, p), hx⟩, by simp, HH.out⟩⟩, hQ5⟩, hB4.setCell (p := ⟨w.heap.size + 1 + 1, 0, none⟩) (by simp; omega) _⟩
      | false =>
        have HH : Hid (¬ HitP X m L len p) := fun h => by simpa using HQH.out.2 h
        gi_wp2
        refine ⟨HK4.out.1.from _, HK4.out.2, ⟨⟨fun x hx' => ?_, by omega⟩, bL4, bX4, bQ4⟩, hB4⟩
        rcases List.mem_append.1 hx' with h | h
        · exact HNO.out x h
        · simp at h; subst h; exact HH.out
  case done =>
    rintro D ys W hD hys ⟨⟨⟨hno, hsz⟩, hbL, hbX, hbQ⟩, hB⟩ hK
    have HF : Hid (¬ ∃ p ∈ kidsTo X 0 m, HitP X m L len p) := by
      rintro ⟨p, hp, hh⟩
      obtain ⟨x, hx, rfl⟩ := num_parts hp
      have hx' : x ∈ valsOf ys := by rw [hys]; exact hx
      obtain ⟨y, hy, rfl⟩ := List.mem_map.1 hx'
      exact hno y hy hh
    have cQ := hbQ.cell
    have fQ := hbQ.frozen
    have hQ2 := hbQ.set (.bool false)
    have hK' := (KeepsOthers.setCell W ⟨w.heap.size + 1 + 1, 0, none⟩ (.bool false)).same D _ hK rfl
    have hB2 := hB.setCell (p := ⟨w.heap.size + 1 + 1, 0, none⟩) (by simp; omega) (.bool false)
    gi_wp2
    refine ⟨by simp, .inl ⟨_, _, rfl, run_takeDeferred hK', ?_⟩⟩
    have kQ := cell_kept hQ2.cell (grownBy_putObj' _ D (.deferred none)) (fun r e => by cases e; exact ⟨_, hK', rfl⟩)
    refine ⟨.bool false, ?_, false, rfl, by simp [HF.out], hB2.trans (belowK_b (w := w) (Nat.le_refl _) _ D _ _ (by simp at hD; omega) hK' rfl rfl)⟩
    simp [results, Tryz.f168, go_sem, kQ]
  case stop =>
    rintro D c' pre W hD hpre ⟨⟨⟨rfl, hhit⟩, hbQ⟩, hB⟩ hK
    have HF : Hid (∃ p ∈ kidsTo X 0 m, HitP X m L len p) := by
      obtain ⟨x, hx, hh⟩ := hhit
      exact ⟨x.1.2, parts_num x.2, hh⟩
    gi_wp2
    refine ⟨by simp, .inl ⟨_, _, rfl, run_takeDeferred hK, ?_⟩⟩
    have kQ := cell_kept hbQ.cell (grownBy_putObj' _ D (.deferred none)) (fun r e => by cases e; exact ⟨_, hK, rfl⟩)
    refine ⟨.bool true, ?_, true, rfl, by simp [HF.out], hB.trans (belowK_b (w := w) (Nat.le_refl _) _ D _ _ (by simp at hD; omega) hK rfl rfl)⟩
    simp [results, Tryz.f168, go_sem, kQ]

end Go.Proofs.YtjohocnfcnjciaaGreatDoor
namespace Go.Proofs.YtjohocnfcnjciaaGreatDoor
open Go.RowKit
set_option linter.unusedVariables false

theorem hasPart_any (b1 o1 c1 m : Nat) (X : Nat → Nd) (b2 o2 c2 len : Nat) (L : Nat → Nd) (w : World) (hX : GoodV X m) (hb1 : b1 < w.heap.size) (h1 : NodesAt w b1 o1 m X) (hb2 : b2 < w.heap.size) (h2 : NodesAt w b2 o2 len L) (h0 : 0 < len) (hlen : len ≤ 80) (hup : ∀ i, i < len → -1 ≤ (L i).up ∧ (L i).up ≤ 2 ^ 20) (hc1 : m ≤ c1) :
    Calls Tryz.prog 168 #[.slice (some ⟨b1, o1, none⟩) m c1, .slice (some ⟨b2, o2, none⟩) len c2] w (HasPIs X m L len w) :=
  callsIn_wide.1 (hasPart_in b1 o1 c1 m X b2 o2 c2 len L w hX hb1 h1 hb2 h2 h0 hlen hup hc1)

set_option maxRecDepth 100000 in
set_option maxHeartbeats 2000000 in
theorem ofOneKind_any (b1 o1 c1 n1 b2 o2 c2 n2 : Nat) (N1 N2 : Nat → Nd) (w : World) (h01 : 0 < n1) (h02 : 0 < n2) (hn1 : n1 ≤ 2 ^ 20) (hn2 : n2 ≤ 2 ^ 20) (hb1 : b1 < w.heap.size) (hb2 : b2 < w.heap.size) (h1 : NodesAt w b1 o1 n1 N1) (h2 : NodesAt w b2 o2 n2 N2) :
    Calls Tryz.prog 167 #[.agg #[.slice (some ⟨b1, o1, none⟩) n1 c1], .agg #[.slice (some ⟨b2, o2, none⟩) n2 c2]] w fun e w' => e = .returned (.bool ((N1 0).kind == (N2 0).kind)) ∧ Below w.heap.size w w' := by
  have a0 := (h1 0 h01).1
  have d0 := (h2 0 h02).1
  simp only [Nat.zero_mul, Nat.add_zero] at a0 d0
  have i1 : (0 : Int) < (n1 : Int) := by omega
  have i2 : (0 : Int) < (n2 : Int) := by omega
  clear h1 h2
  go_enter Tryz.func167, Tryz.ntmps167
  go_wp2_with fail
  go_quiet (fail)
  go_wp2
  go_ret
  exact ⟨rfl, drewN_below (((Below.refl _ _).alloc (Nat.le_refl _) _).alloc (by simp) _) _⟩

/-- The nodes of what is found, and of what is asked for. -/
theorem sub_up {N : Nat → Nd} {n k e : Nat} (hg : GoodV N n) (hk : k < n) (he : IsEnd N n k e) : ∀ i, i < (subTo N k e).length → -1 ≤ ((subTo N k e).getD i ⟨0, 0, ⟨#[]⟩, ⟨#[]⟩, 0⟩).up ∧ ((subTo N k e).getD i ⟨0, 0, ⟨#[]⟩, ⟨#[]⟩, 0⟩).up ≤ 2 ^ 20 := by
  intro i hi
  rw [subTo_len] at hi
  cases i with
  | zero => rw [sub_head]; dsimp only; omega
  | succ i =>
    have hi' : i < e - (k + 1) := by omega
    have hgi : (subTo N k e).getD (i + 1) ⟨0, 0, ⟨#[]⟩, ⟨#[]⟩, 0⟩ = { N (k + 1 + i) with up := (N (k + 1 + i)).up - k } := by
      unfold subTo seg
      rw [List.getD_eq_getElem?_getD, List.getElem?_cons_succ, List.getElem?_map, List.getElem?_range' hi']
      simp
    rw [hgi]
    have h1 := he.2.2.1 (k + 1 + i) (by omega) (by omega)
    have h2 := good_up hg (k + 1 + i) (by have := he.2.1; omega)
    have h3 := hg.1.2.1
    have h4 := he.2.1
    dsimp only
    omega
theorem hits_in {N X : Nat → Nd} {n k e m : Nat} (hg : GoodV N n) (hk : k < n) (he : IsEnd N n k e) (hX : GoodV X m) (h6 : (X 0).kind = 6) {q : Bool} (hq : q = true ↔ ∃ p ∈ kidsTo X 0 m, HitP X m (fun i => (subTo N k e).getD i ⟨0, 0, ⟨#[]⟩, ⟨#[]⟩, 0⟩) (subTo N k e).length p) :
    q = ((tree X m 0).kids.any fun x => (tree N n k).cmp x == 0) := by
  have hh : ∀ p ∈ kidsTo X 0 m, (HitP X m (fun i => (subTo N k e).getD i ⟨0, 0, ⟨#[]⟩, ⟨#[]⟩, 0⟩) (subTo N k e).length p ↔ (tree N n k).cmp (tree X m p) = 0) := fun p hp => by
    obtain ⟨en, hen⟩ := end_of (N := X) (kidsTo_mem hp).2.1
    rw [← part_hit hg hk he hX h6 hp hen]
    constructor
    · rintro ⟨en', hen', h1, h2⟩
      obtain rfl := end_unique hen hen'
      refine List.ext_getElem (by rw [List.length_map, List.length_range', partL_len]; exact h1) fun i h3 h4 => ?_
      rw [partL_len] at h4
      have := h2 i h4
      simp only [List.getElem_map, List.getElem_range', partL, List.getElem_range, Nat.one_mul]
      exact this
    · intro h
      have hl := congrArg List.length h
      rw [List.length_map, List.length_range', partL_len] at hl
      refine ⟨en, hen, hl, fun i hi => ?_⟩
      have h5 : i < ((List.range' p (en - p)).map X).length := by rw [List.length_map, List.length_range']; omega
      have h6 : i < (partL (fun i => (subTo N k e).getD i ⟨0, 0, ⟨#[]⟩, ⟨#[]⟩, 0⟩) (subTo N k e).length p 0 ⟨#[]⟩).length := by rw [partL_len]; exact hi
      have h7 := List.getElem_of_eq h h5
      simp only [List.getElem_map, List.getElem_range', partL, List.getElem_range, Nat.one_mul] at h7
      exact h7
  rw [tree_kids hX.1.1]
  cases q with
  | true =>
    obtain ⟨p, hp, h1⟩ := hq.1 rfl
    symm
    rw [List.any_eq_true]
    exact ⟨tree X m p, List.mem_map.2 ⟨p, hp, rfl⟩, by simpa using (hh p hp).1 h1⟩
  | false =>
    symm
    rw [List.any_eq_false]
    intro x hx
    obtain ⟨p, hp, rfl⟩ := List.mem_map.1 hx
    intro hc
    have := hq.2 ⟨p, hp, (hh p hp).2 (by simpa using hc)⟩
    simp at this

theorem goodV_small' {N : Nat → Nd} {n : Nat} (h : GoodV N n) : SmallN n N := by
  have hn := h.1.2.1
  refine ⟨by omega, fun i hi => ?_⟩
  obtain ⟨h1, h2, _⟩ := h.1.2.2 i hi
  have hp : ∀ t : ByteArray, plainB t = true → t.size ≤ 24 := fun t h => by
    unfold plainB at h
    simp only [Bool.and_eq_true, decide_eq_true_eq] at h
    exact h.1
  have e1 := (content_bounds h1).2.2
  have e2 := hp _ (name_plain h2)
  omega
theorem leaf_path {x : Tm} (h : LeafOK x) : PathIs x.path := by
  obtain ⟨hf, hk⟩ := h
  unfold FieldsOK at hf
  rcases hf with ⟨_, h, _⟩ | ⟨_, h, _⟩ | ⟨_, h, _⟩ | ⟨h6, _⟩ | ⟨h8, _⟩
  · exact h
  · exact h
  · exact h
  · omega
  · omega
theorem leaf_good {x : Tm} (h : LeafOK x) (h4 : x.kind ≠ 4) : GoodV x.N x.n := by
  obtain ⟨hf, hk⟩ := h
  unfold FieldsOK at hf
  rcases hf with ⟨_, _, h, _⟩ | ⟨h, _⟩ | ⟨_, _, h, _⟩ | ⟨h6, _⟩ | ⟨h8, _⟩
  · exact h
  · exact absurd h h4
  · exact h.1
  · omega
  · omega
theorem leaf_list {x : Tm} (h : LeafOK x) (h5 : x.kind = 5) : (x.N 0).kind = 6 := by
  obtain ⟨hf, hk⟩ := h
  unfold FieldsOK at hf
  rcases hf with ⟨h, _⟩ | ⟨h, _⟩ | ⟨_, _, h, _⟩ | ⟨h6, _⟩ | ⟨h8, _⟩
  · omega
  · omega
  · exact h.2
  · omega
  · omega

set_option maxRecDepth 100000 in
set_option maxHeartbeats 4000000 in
theorem matchLeaf_any (x : Tm) (cc : Tc) (b n : Nat) (a : Option Addr) (c : Nat) (N : Nat → Nd) (w : World) (hx : TermC w cc x) (hL : LeafOK x) (h : OwnAt w b (.slice a n c) n N) (hg : GoodV N n) (hcap : n ≤ c) (htab : Tab w.heap.size w) (hml : ML w) :
    Calls Tryz.prog 164 #[.agg #[.int .i64 cc.kind, .string cc.path, .slice cc.va cc.vn cc.vc, .slice cc.ka cc.km cc.kc], .agg #[.slice a n c]] w fun e w' => e = .returned (.bool (leafM x (tree N n 0))) ∧ Below w.heap.size w w' := by
  obtain ⟨⟨e0, e1, e2, e3, hva, _⟩, hcp⟩ := hx
  have hpath := leaf_path hL
  have hgood := leaf_good hL
  have hlist := leaf_list hL
  have hk15 := hL.2
  obtain ⟨kd0, p0, va, vn, vc, ka, km, kc⟩ := cc
  obtain ⟨kd, p, m, X, u, K⟩ := x
  dsimp only at e0 e1 e2 e3 hva hcp hpath hgood hlist hk15 ⊢
  subst e0 e1 e2 e3
  have HSM : Hid (SmallN n N) := (goodV_small' hg)
  have HO : Hid (OwnAt w b (.slice a n c) n N) := h
  have HG : Hid (GoodV N n) := hg
  have HV : Hid (ArgIs w va vn X) := hva
  have HP : Hid (PathIs p0) := hpath
  have HGX : Hid (kd0 ≠ 4 → GoodV X vn) := hgood
  have HL6 : Hid (kd0 = 5 → (X 0).kind = 6) := hlist
  have HTB : Hid (Tab w.heap.size w) := htab
  have HML : Hid (ML w) := hml
  clear h hg hva hpath hgood hlist htab hml hL
  have hal : ∀ o o', Below w.heap.size w ((w.alloc o).alloc o') := fun o o' => ((Below.refl _ _).alloc (Nat.le_refl _) o).alloc (by simp) o'
  go_enter Tryz.func164, Tryz.ntmps164
  go_wp2_with fail
  refine (implGet_own b n a c N p0 _ (HO.out.below (hal _ _)) HSM.out (HTB.out.up (hal _ _)) hcap (HML.out.below (hal _ _))).mono ?_
  rintro e w1 ⟨v1, q, b1, L, rfl, hT, hbL, hO1, hb1⟩
  have x0 : w1.cell? ⟨w.heap.size, 0, none⟩ = some (.int .i64 kd0) := by rw [hb1.cell (by simp; omega)]; simp [go_sem]
  have x2 : w1.cell? ⟨w.heap.size, 2, none⟩ = some (.slice va vn vc) := by rw [hb1.cell (by simp; omega)]; simp [go_sem]
  have z1 : w.heap.size + 1 + 1 ≤ w1.heap.size := by have := hb1.size; simp at this; omega
  have z1' : w.heap.size < w1.heap.size := by omega
  have HB1 : Hid (Below w.heap.size w w1) := (hal _ _).trans (hb1.mono (by simp; omega))
  clear hb1 hbL hal
  rcases gtold_tree hT HG.out HP.out with ⟨rfl, hnone⟩ | ⟨rfl, k, en, hk, hen, rfl, hsome⟩
  · obtain ⟨a1, c1, off1, rfl, _, _⟩ := hO1
    have HR : Hid (leafM ⟨kd0, p0, vn, X, km, K⟩ (tree N n 0) = false) := leaf_none hnone
    clear hnone hT
    go_wp2
    go_ret
    exact ⟨by rw [HR.out]; rfl, HB1.out.trans ((Below.refl _ _).alloc HB1.out.size _)⟩
  · obtain ⟨y, hy⟩ : ∃ y, y = tree N n k := ⟨_, rfl⟩
    obtain ⟨len, hlen⟩ : ∃ len, len = (subTo N k en).length := ⟨_, rfl⟩
    obtain ⟨M, hM⟩ : ∃ M : Nat → Nd, M = fun i => (subTo N k en).getD i ⟨0, 0, ⟨#[]⟩, ⟨#[]⟩, 0⟩ := ⟨_, rfl⟩
    rw [← hlen, ← hM] at hO1
    have hl0 : 0 < len := by rw [hlen, subTo_len]; omega
    have hl80 : len ≤ 80 := by rw [hlen, subTo_len]; have := hen.1; have := hen.2.1; have := HG.out.1.2.1; omega
    obtain ⟨a1, c1, off1, rfl, _, h1⟩ := hO1
    rcases h1 with h1 | ⟨rfl, hb1, hat1, _⟩
    · omega
    have HAT : Hid (NodesAt w1 b1 off1 len M) := hat1
    have HS : Hid (getT (tree N n 0) (nmsL p0) = some y) := by rw [hy]; exact hsome
    have HCM : Hid (GoodV X vn → lexN (from_ M len 0) (from_ X vn 0) = y.cmp (tree X vn 0)) := fun hgx => by rw [hM, hlen, hy]; exact sub_cmp HG.out hk hen hgx
    have HKD : Hid (GoodV X vn → ((M 0).kind == (X 0).kind) = decide (y.kind = (tree X vn 0).kind)) := fun hgx => by
      rw [hM, hy, tree_kind hk, tree_kind hgx.1.1]
      dsimp only
      rw [sub_head]
      rfl
    have HUP : Hid (∀ i, i < len → -1 ≤ (M i).up ∧ (M i).up ≤ 2 ^ 20) := by rw [hM, hlen]; exact sub_up HG.out hk hen
    have HIN : Hid (∀ q : Bool, GoodV X vn → (X 0).kind = 6 → (q = true ↔ ∃ p ∈ kidsTo X 0 vn, HitP X vn M len p) → q = ((tree X vn 0).kids.any fun x => y.cmp x == 0)) := fun q hgx h6 hq => by
      rw [hM, hlen] at hq
      rw [hy]
      exact hits_in HG.out hk hen hgx h6 hq
    clear hy hlen hM hT hsome hat1 hen hk
    by_cases k4 : kd0 = 4
    · subst k4
      have HR : Hid (leafM ⟨4, p0, vn, X, km, K⟩ (tree N n 0) = true) := leaf_has HS.out
      go_wp2
      go_ret
      exact ⟨by rw [HR.out]; rfl, HB1.out.trans (((Below.refl _ _).alloc HB1.out.size _).alloc (by simp; omega) _)⟩
    · have hgx := HGX.out k4
      obtain ⟨bx, ox, rfl, hbx, hatx⟩ : ∃ bx ox, va = some ⟨bx, ox, none⟩ ∧ bx < w1.heap.size ∧ NodesAt w1 bx ox vn X := by
        rcases HV.out.below HB1.out with h0 | h0
        · have := hgx.1.1; omega
        · exact h0
      have vn0 : 0 < vn := hgx.1.1
      have vn80 : vn ≤ 80 := hgx.1.2.1
      have HATX : Hid (NodesAt w1 bx ox vn X) := hatx
      clear hatx
      have HGV : Hid (GoodV X vn) := hgx
      clear hgx
      have al1 : ∀ o o', Below w1.heap.size w1 ((w1.alloc o).alloc o') := fun o o' => ((Below.refl _ _).alloc (Nat.le_refl _) o).alloc (by simp) o'
      by_cases k1 : kd0 = 1
      · subst k1
        have HR : Hid (leafM ⟨1, p0, vn, X, km, K⟩ (tree N n 0) = (y.cmp (tree X vn 0) == 0)) := leaf_eq HS.out
        go_wp2_with fail
        refine (compareValues_any b1 off1 c1 len bx ox vc vn M X _ (by omega) (by omega) (by simp; omega) (by simp; omega) (HAT.out.below (al1 _ _) hb1) (HATX.out.below (al1 _ _) hbx)).mono ?_
        rintro e w2 ⟨rfl, hb2⟩
        have HB2 : Hid (Below w.heap.size w w2) := HB1.out.trans (((al1 _ _).trans (hb2.mono (by simp; omega))).mono HB1.out.size)
        clear hb2 al1
        go_wp2
        go_ret
        exact ⟨by rw [HR.out, ← HCM.out HGV.out]; rfl, HB2.out⟩
      · by_cases k2 : kd0 = 2
        · subst k2
          have HR : Hid (leafM ⟨2, p0, vn, X, km, K⟩ (tree N n 0) = (decide (y.kind = (tree X vn 0).kind) && decide (y.cmp (tree X vn 0) < 0))) := leaf_lt HS.out
          have HKE := HKD.out HGV.out
          obtain ⟨qk, hqk⟩ : ∃ qk : Bool, qk = ((M 0).kind == (X 0).kind) := ⟨_, rfl⟩
          have HQK : Hid (qk = decide (y.kind = (tree X vn 0).kind)) := hqk.trans HKE
          go_wp2_with fail
          refine (ofOneKind_any b1 off1 c1 len bx ox vc vn M X _ hl0 vn0 (by omega) (by omega) (by simp; omega) (by simp; omega) (HAT.out.below (al1 _ _) hb1) (HATX.out.below (al1 _ _) hbx)).mono ?_
          rw [← hqk]
          rintro e w2 ⟨rfl, hb2⟩
          have hb12 : Below w1.heap.size w1 w2 := (al1 _ _).trans (hb2.mono (by simp; omega))
          have t2 : w2.cell? ⟨w1.heap.size, 0, none⟩ = some (.slice (some ⟨b1, off1, none⟩) len c1) := by rw [hb2.cell (by simp; omega)]; simp [go_sem]
          have s2 : w2.cell? ⟨w1.heap.size + 1, 0, none⟩ = some (.slice (some ⟨bx, ox, none⟩) vn vc) := by rw [hb2.cell (by simp)]; simp [go_sem]
          have HB2 : Hid (Below w.heap.size w w2) := HB1.out.trans (hb12.mono HB1.out.size)
          have z12 := hb12.size
          have HAT2 : Hid (NodesAt w2 b1 off1 len M ∧ NodesAt w2 bx ox vn X) := ⟨HAT.out.below hb12 hb1, HATX.out.below hb12 hbx⟩
          clear hb2 hb12 al1 hqk HKE
          cases qk with
          | false =>
            go_wp2
            go_ret
            exact ⟨by rw [HR.out, ← HQK.out]; rfl, HB2.out⟩
          | true =>
            go_wp2_with fail
            refine (compareValues_any b1 off1 c1 len bx ox vc vn M X _ (by omega) (by omega) (by omega) (by omega) HAT2.out.1 HAT2.out.2).mono ?_
            rintro e w3 ⟨rfl, hb3⟩
            have HB3 : Hid (Below w.heap.size w w3) := HB2.out.trans (hb3.mono HB2.out.size)
            rw [HCM.out HGV.out]
            clear hb3
            go_wp2
            go_ret
            exact ⟨by rw [HR.out, ← HQK.out]; rfl, HB3.out⟩
        · by_cases k3 : kd0 = 3
          · subst k3
            have HR : Hid (leafM ⟨3, p0, vn, X, km, K⟩ (tree N n 0) = (decide (y.kind = (tree X vn 0).kind) && decide (0 < y.cmp (tree X vn 0)))) := leaf_gt HS.out
            have HKE := HKD.out HGV.out
            obtain ⟨qk, hqk⟩ : ∃ qk : Bool, qk = ((M 0).kind == (X 0).kind) := ⟨_, rfl⟩
            have HQK : Hid (qk = decide (y.kind = (tree X vn 0).kind)) := hqk.trans HKE
            go_wp2_with fail
            refine (ofOneKind_any b1 off1 c1 len bx ox vc vn M X _ hl0 vn0 (by omega) (by omega) (by simp; omega) (by simp; omega) (HAT.out.below (al1 _ _) hb1) (HATX.out.below (al1 _ _) hbx)).mono ?_
            rw [← hqk]
            rintro e w2 ⟨rfl, hb2⟩
            have hb12 : Below w1.heap.size w1 w2 := (al1 _ _).trans (hb2.mono (by simp; omega))
            have t2 : w2.cell? ⟨w1.heap.size, 0, none⟩ = some (.slice (some ⟨b1, off1, none⟩) len c1) := by rw [hb2.cell (by simp; omega)]; simp [go_sem]
            have s2 : w2.cell? ⟨w1.heap.size + 1, 0, none⟩ = some (.slice (some ⟨bx, ox, none⟩) vn vc) := by rw [hb2.cell (by simp)]; simp [go_sem]
            have HB2 : Hid (Below w.heap.size w w2) := HB1.out.trans (hb12.mono HB1.out.size)
            have z12 := hb12.size
            have HAT2 : Hid (NodesAt w2 b1 off1 len M ∧ NodesAt w2 bx ox vn X) := ⟨HAT.out.below hb12 hb1, HATX.out.below hb12 hbx⟩
            clear hb2 hb12 al1 hqk HKE
            cases qk with
            | false =>
              go_wp2
              go_ret
              exact ⟨by rw [HR.out, ← HQK.out]; rfl, HB2.out⟩
            | true =>
              go_wp2_with fail
              refine (compareValues_any b1 off1 c1 len bx ox vc vn M X _ (by omega) (by omega) (by omega) (by omega) HAT2.out.1 HAT2.out.2).mono ?_
              rintro e w3 ⟨rfl, hb3⟩
              have HB3 : Hid (Below w.heap.size w w3) := HB2.out.trans (hb3.mono HB2.out.size)
              rw [HCM.out HGV.out]
              clear hb3
              go_wp2
              go_ret
              exact ⟨by rw [HR.out, ← HQK.out]; rfl, HB3.out⟩
          · have k5 : kd0 = 5 := by omega
            subst k5
            have HR : Hid (leafM ⟨5, p0, vn, X, km, K⟩ (tree N n 0) = (tree X vn 0).kids.any fun x => y.cmp x == 0) := leaf_in HS.out
            go_wp2_with fail
            refine (hasPart_any bx ox vc vn X b1 off1 c1 len M _ HGV.out (by simp; omega) (HATX.out.below (al1 _ _) hbx) (by simp; omega) (HAT.out.below (al1 _ _) hb1) hl0 hl80 HUP.out hcp).mono ?_
            rintro e w2 ⟨qh, rfl, hqh, hb2⟩
            have HB2 : Hid (Below w.heap.size w w2) := HB1.out.trans (((al1 _ _).trans (hb2.mono (by simp; omega))).mono HB1.out.size)
            have HQ : Hid (qh = (tree X vn 0).kids.any fun x => y.cmp x == 0) := HIN.out qh HGV.out (HL6.out (by trivial)) hqh
            clear hb2 al1 hqh
            go_wp2
            go_ret
            exact ⟨by rw [HR.out, ← HQ.out]; rfl, HB2.out⟩

end Go.Proofs.YtjohocnfcnjciaaGreatDoor
namespace Go.Proofs.YtjohocnfcnjciaaGreatDoor
open Go.RowKit
set_option linter.unusedVariables false

theorem less_cmp : ∀ a b : List UInt8, Lib.compareBytes a b = if Op.bytesLess a b = true then -1 else if Op.bytesLess b a = true then 1 else 0
  | [], [] => by simp [Lib.compareBytes, Op.bytesLess]
  | [], _ :: _ => by simp [Lib.compareBytes, Op.bytesLess]
  | _ :: _, [] => by simp [Lib.compareBytes, Op.bytesLess]
  | x :: a, y :: b => by
    have ih := less_cmp a b
    unfold Lib.compareBytes Op.bytesLess
    by_cases h1 : x < y
    · simp [h1]
    · by_cases h2 : y < x
      · have h3 : ¬ x < y := h1
        simp [h1, h2]
        intro e
        subst e
        exact absurd h2 (UInt8.lt_irrefl _)
      · have e : x = y := UInt8.le_antisymm (UInt8.not_lt.1 h2) (UInt8.not_lt.1 h1)
        subst e
        simp [h1, ih]
theorem txt_cmp (a b : ByteArray) : txtCmp a b = if Op.bytesLess a.toList b.toList = true then -1 else if (a.toList == b.toList) = true then 0 else 1 := by
  unfold txtCmp
  have h := less_cmp a.data.toList b.data.toList
  rw [ByteArray.toList_eq, ByteArray.toList_eq]
  by_cases h1 : Op.bytesLess a.data.toList b.data.toList = true
  · rw [if_pos h1] at h ⊢; exact h
  · rw [if_neg h1] at h ⊢
    by_cases h2 : (a.data.toList == b.data.toList) = true
    · rw [if_pos h2, eq_of_beq h2, compareBytes_self]
    · rw [if_neg h2]
      by_cases h3 : Op.bytesLess b.data.toList a.data.toList = true
      · rw [if_pos h3] at h; exact h
      · rw [if_neg h3] at h
        exact absurd (compareBytes_zero _ _ h) (fun e => h2 (by rw [e]; simp))

set_option maxHeartbeats 400000 in
theorem l2Ints_any (x y : Int) (w : World) : Calls Tryz.prog 94 #[.int .i64 x, .int .i64 y] w fun e w' => e = .returned (.int .i64 (intCmp x y)) ∧ w' = w := by
  unfold intCmp
  by_cases h1 : x < y
  · rw [if_pos h1]
    go_enter Tryz.func94, Tryz.ntmps94
    go_wp2
    go_ret
    exact ⟨rfl, rfl⟩
  · rw [if_neg h1]
    by_cases h2 : y < x
    · rw [if_pos h2]
      go_enter Tryz.func94, Tryz.ntmps94
      go_wp2
      go_ret
      exact ⟨rfl, rfl⟩
    · rw [if_neg h2]
      go_enter Tryz.func94, Tryz.ntmps94
      go_wp2
      go_ret
      exact ⟨rfl, rfl⟩

set_option maxHeartbeats 400000 in
theorem l2Texts_any (x y : ByteArray) (w : World) : Calls Tryz.prog 95 #[.string x, .string y] w fun e w' => e = .returned (.int .i64 (txtCmp x y)) ∧ w' = w := by
  rw [txt_cmp]
  cases h1 : Op.bytesLess x.toList y.toList with
  | true =>
    go_enter Tryz.func95, Tryz.ntmps95
    go_wp2
    go_ret
    exact ⟨by simp, rfl⟩
  | false =>
    cases h2 : (x.toList == y.toList) with
    | true =>
      go_enter Tryz.func95, Tryz.ntmps95
      go_wp2
      go_ret
      exact ⟨by simp, rfl⟩
    | false =>
      go_enter Tryz.func95, Tryz.ntmps95
      go_wp2
      go_ret
      exact ⟨by simp, rfl⟩

theorem cmps_step {ks ks' : List Tr} {f g : Nat → ByteArray} {m : Nat} {x y : Tr} (hx : ks[m]? = some x) (hy : ks'[m]? = some y) :
    Tr.cmps (ks.drop m) f g m (ks'.drop m) = or2 (txtCmp (f m) (g m)) (or2 (x.cmp y) (Tr.cmps (ks.drop (m + 1)) f g (m + 1) (ks'.drop (m + 1)))) := by
  obtain ⟨h1, e1⟩ := List.getElem?_eq_some_iff.1 hx
  obtain ⟨h2, e2⟩ := List.getElem?_eq_some_iff.1 hy
  rw [List.drop_eq_getElem_cons h1, List.drop_eq_getElem_cons h2, e1, e2, Tr.cmps]
theorem cmps_more {ks : List Tr} {f g : Nat → ByteArray} {m : Nat} (h : m < ks.length) : Tr.cmps (ks.drop m) f g m [] = 1 := by
  rw [List.drop_eq_getElem_cons h, Tr.cmps]
theorem cmps_done {ks' : List Tr} {f g : Nat → ByteArray} {m l : Nat} (hl : l = m) (h : m ≤ ks'.length) : Tr.cmps [] f g m (ks'.drop m) = intCmp l ks'.length := by
  subst hl
  unfold intCmp
  by_cases h1 : l < ks'.length
  · rw [List.drop_eq_getElem_cons h1, Tr.cmps, if_pos (by omega)]
  · rw [List.drop_eq_nil_of_le (by omega), Tr.cmps, if_neg (by omega), if_neg (by omega)]

def CmpSaid (t : Tr) : Prop := ∀ (u : Tr) (v1 v2 : Value) (w : World), Tree w t v1 → Tree w u v2 → t.named → u.named → t.cnt ≤ 2 ^ 20 → u.cnt ≤ 2 ^ 20 →
    Calls Tryz.prog 83 #[v1, v2] w fun e w' => e = .returned (.int .i64 (t.cmp u)) ∧ Below w.heap.size w w'

set_option maxRecDepth 100000 in
set_option maxHeartbeats 4000000 in
theorem l2Compare_step (k n : Int) (t : ByteArray) (nm : List ByteArray) (ks : List Tr) (ih : ∀ x ∈ ks, CmpSaid x) : CmpSaid (.mk k n t nm ks) := by
  intro u v1 v2 w h1 h2 hn1 hn2 hc1 hc2
  obtain ⟨k', n', t', nm', ks'⟩ := u
  obtain ⟨an, cn, ak, ck, rfl, hnm, hk⟩ := h1.open
  obtain ⟨an', cn', ak', ck', rfl, hnm', hk'⟩ := h2.open
  rw [Tr.cnt] at hc1 hc2
  have hl1 := Tr.len_cnts ks
  have hl2 := Tr.len_cnts ks'
  rw [Tr.named] at hn1 hn2
  have HN1 : Hid ((k = 7 → nm.length = ks.length) ∧ ∀ x ∈ ks, x.named) := ⟨hn1.1, Tr.nameds_mem.1 hn1.2⟩
  have HN2 : Hid ((k' = 7 → nm'.length = ks'.length) ∧ ∀ x ∈ ks', x.named) := ⟨hn2.1, Tr.nameds_mem.1 hn2.2⟩
  have HIH : Hid (∀ x ∈ ks, CmpSaid x) := ih
  have HA1 : Hid (NamsAt w (fun _ => True) an nm) := hnm
  have HA2 : Hid (NamsAt w (fun _ => True) an' nm') := hnm'
  have HK1 : Hid (ks = [] ∨ ∃ g, ak = some ⟨g, 0, none⟩ ∧ g < w.heap.size ∧ ∀ i x, ks[i]? = some x → KidAt w (fun _ => True) x g i) := hk
  have HK2 : Hid (ks' = [] ∨ ∃ g, ak' = some ⟨g, 0, none⟩ ∧ g < w.heap.size ∧ ∀ i x, ks'[i]? = some x → KidAt w (fun _ => True) x g i) := hk'
  clear ih hnm hnm' hk hk' hn1 hn2 h1 h2
  have HR : Hid ((Tr.mk k n t nm ks).cmp (.mk k' n' t' nm' ks') = or2 (intCmp k k') (if k = 4 then intCmp n n' else if k = 5 then txtCmp t t' else Tr.cmps ks (Tr.nmOf k nm) (Tr.nmOf k nm') 0 ks')) := by
    show _ = _
    rw [Tr.cmp]
    rfl
  obtain ⟨C, hC⟩ : ∃ C, C = intCmp k k' := ⟨_, rfl⟩
  have HC : Hid (C = intCmp k k') := hC
  clear hC
  go_enter Tryz.func83, Tryz.ntmps83
  go_wp2_with fail
  refine (l2Ints_any k k' _).mono ?_
  rintro e w' ⟨rfl, rfl⟩
  rw [← HC.out]
  obtain ⟨W, hW⟩ : ∃ W, W = (w.alloc (.cells #[.int .i64 k, .int .i64 n, .string t, .slice an nm.length cn, .slice ak ks.length ck] 67)).alloc (.cells #[.int .i64 k', .int .i64 n', .string t', .slice an' nm'.length cn', .slice ak' ks'.length ck'] 67) := ⟨_, rfl⟩
  have hp : W.cell? ⟨w.heap.size, 0, none⟩ = some (.int .i64 k) ∧ W.cell? ⟨w.heap.size, 1, none⟩ = some (.int .i64 n) ∧ W.cell? ⟨w.heap.size, 2, none⟩ = some (.string t) ∧ W.cell? ⟨w.heap.size, 3, none⟩ = some (.slice an nm.length cn) ∧ W.cell? ⟨w.heap.size, 4, none⟩ = some (.slice ak ks.length ck) := by rw [hW]; simp [go_sem]
  have hq : W.cell? ⟨w.heap.size + 1, 0, none⟩ = some (.int .i64 k') ∧ W.cell? ⟨w.heap.size + 1, 1, none⟩ = some (.int .i64 n') ∧ W.cell? ⟨w.heap.size + 1, 2, none⟩ = some (.string t') ∧ W.cell? ⟨w.heap.size + 1, 3, none⟩ = some (.slice an' nm'.length cn') ∧ W.cell? ⟨w.heap.size + 1, 4, none⟩ = some (.slice ak' ks'.length ck') := by rw [hW]; simp [go_sem]
  have hWz : W.heap.size = w.heap.size + 2 := by rw [hW]; simp
  have HBW : Hid (Below w.heap.size w W) := by rw [hW]; exact ((Below.refl _ _).alloc (Nat.le_refl _) _).alloc (by simp) _
  rw [← hW]
  obtain ⟨p0, p1, p2, p3, p4⟩ := hp
  obtain ⟨q0, q1, q2, q3, q4⟩ := hq
  clear hW
  by_cases hC0 : C = 0
  · have hkk : k = k' := intCmp_zero.1 (by rw [← HC.out]; exact hC0)
    subst hkk
    subst hC0
    have HR2 : Hid ((Tr.mk k n t nm ks).cmp (.mk k n' t' nm' ks') = if k = 4 then intCmp n n' else if k = 5 then txtCmp t t' else Tr.cmps ks (Tr.nmOf k nm) (Tr.nmOf k nm') 0 ks') := by
      show _ = _
      rw [HR.out, ← HC.out, or2_zero]
    clear HR HC
    by_cases h4 : k = 4
    · subst h4
      go_wp2_with fail
      refine (l2Ints_any n n' _).mono ?_
      rintro e w' ⟨rfl, rfl⟩
      go_wp2_with fail
      go_ret
      exact ⟨by rw [HR2.out]; rfl, HBW.out⟩
    · by_cases h5 : k = 5
      · subst h5
        go_wp2_with fail
        refine (l2Texts_any t t' _).mono ?_
        rintro e w' ⟨rfl, rfl⟩
        go_wp2_with fail
        go_ret
        exact ⟨by rw [HR2.out]; rfl, HBW.out⟩
      · have e4 : (k == 4) = false := by simpa using h4
        have e5 : (k == 5) = false := by simpa using h5
        rw [if_neg h4, if_neg h5] at HR2
        go_wp2_with fail
        go_loopw [36] (fun i wr => ∃ m : Nat, m ≤ ks.length ∧ m ≤ ks'.length ∧ i = .int .i64 m ∧ Hid (Tr.cmps ks (Tr.nmOf k nm) (Tr.nmOf k nm') 0 ks' = Tr.cmps (ks.drop m) (Tr.nmOf k nm) (Tr.nmOf k nm') m (ks'.drop m)) ∧ Below W.heap.size W wr) (fun i _ => ks.length - (intOf i).toNat)
        case atStart => exact ⟨0, Nat.zero_le _, Nat.zero_le _, rfl, rfl, Below.refl _ _⟩
        case round =>
          obtain ⟨m, hm1, hm2, rfl, HL, hnx⟩ := hrel
          have hz := hnx.size
          have h0w : w.heap.size < wr.heap.size := by omega
          have h1w : w.heap.size + 1 < wr.heap.size := by omega
          have hwb : Below w.heap.size w wr := HBW.out.trans (hnx.mono HBW.out.size)
          have u0 : wr.cell? ⟨w.heap.size, 0, none⟩ = some (.int .i64 k) := (hnx.cell (by show w.heap.size < _; omega)).trans p0
          have u3 : wr.cell? ⟨w.heap.size, 3, none⟩ = some (.slice an nm.length cn) := (hnx.cell (by show w.heap.size < _; omega)).trans p3
          have u4 : wr.cell? ⟨w.heap.size, 4, none⟩ = some (.slice ak ks.length ck) := (hnx.cell (by show w.heap.size < _; omega)).trans p4
          have y3 : wr.cell? ⟨w.heap.size + 1, 3, none⟩ = some (.slice an' nm'.length cn') := (hnx.cell (by show w.heap.size + 1 < _; omega)).trans q3
          have y4 : wr.cell? ⟨w.heap.size + 1, 4, none⟩ = some (.slice ak' ks'.length ck') := (hnx.cell (by show w.heap.size + 1 < _; omega)).trans q4
          by_cases hlt : m < ks.length
          · by_cases hlt2 : m < ks'.length
            · obtain ⟨x, hx⟩ : ∃ x, ks[m]? = some x := ⟨ks[m], List.getElem?_eq_getElem hlt⟩
              obtain ⟨y, hy⟩ : ∃ y, ks'[m]? = some y := ⟨ks'[m], List.getElem?_eq_getElem hlt2⟩
              rcases HK1.out with h0 | ⟨g, rfl, hg, hkid⟩
              · rw [h0] at hlt; simp at hlt
              rcases HK2.out with h0 | ⟨g', rfl, hg', hkid'⟩
              · rw [h0] at hlt2; simp at hlt2
              have hkp : ∀ b', True → b' < w.heap.size → wr.heap[b']? = w.heap[b']? := fun b' _ hl' => hwb.block b' hl'
              obtain ⟨xan, xcn, xak, xck, c0, c1, c2, c3, c4, htx⟩ := ((hkid m x hx).keep hkp (fun _ _ _ => trivial) hwb.size (hwb.block g hg)).cells
              obtain ⟨yan, ycn, yak, yck, d0, d1, d2, d3, d4, hty⟩ := ((hkid' m y hy).keep hkp (fun _ _ _ => trivial) hwb.size (hwb.block g' hg')).cells
              have hxm := List.mem_of_getElem? hx
              have hym := List.mem_of_getElem? hy
              have HTX : Hid (Tree wr x _) := htx
              have HTY : Hid (Tree wr y _) := hty
              have HS : Hid (CmpSaid x) := HIH.out x hxm
              have HXN : Hid x.named := HN1.out.2 x hxm
              have HYN : Hid y.named := HN2.out.2 y hym
              have hcx : x.cnt ≤ 2 ^ 20 := by have := Tr.cnt_mem hxm; omega
              have hcy : y.cnt ≤ 2 ^ 20 := by have := Tr.cnt_mem hym; omega
              have j0 : (0 : Int) ≤ (m : Int) := by omega
              have j1 : (m : Int) < (ks.length : Int) := by omega
              have j2 : (m : Int) < (ks'.length : Int) := by omega
              have j3 : ((m : Int) == (ks'.length : Int)) = false := by rw [beq_eq_false_iff_ne]; omega
              have hgw : g < wr.heap.size := by omega
              have hgw' : g' < wr.heap.size := by omega
              have HSP := cmps_step (f := Tr.nmOf k nm) (g := Tr.nmOf k nm') hx hy
              rw [← HL.out] at HSP
              have HST : Hid (wr.cell? ⟨w.heap.size, 4, none⟩ = some (.slice (some ⟨g, 0, none⟩) ks.length ck) ∧ wr.cell? ⟨w.heap.size + 1, 4, none⟩ = some (.slice (some ⟨g', 0, none⟩) ks'.length ck') ∧ wr.cell? ⟨g, m * 5, none⟩ = some (.int .i64 x.kind) ∧ wr.cell? ⟨g, m * 5 + 1, none⟩ = some (.int .i64 x.num) ∧ wr.cell? ⟨g, m * 5 + 2, none⟩ = some (.string x.text) ∧ wr.cell? ⟨g, m * 5 + 3, none⟩ = some (.slice xan x.names.length xcn) ∧ wr.cell? ⟨g, m * 5 + 4, none⟩ = some (.slice xak x.kids.length xck) ∧ wr.cell? ⟨g', m * 5, none⟩ = some (.int .i64 y.kind) ∧ wr.cell? ⟨g', m * 5 + 1, none⟩ = some (.int .i64 y.num) ∧ wr.cell? ⟨g', m * 5 + 2, none⟩ = some (.string y.text) ∧ wr.cell? ⟨g', m * 5 + 3, none⟩ = some (.slice yan y.names.length ycn) ∧ wr.cell? ⟨g', m * 5 + 4, none⟩ = some (.slice yak y.kids.length yck)) := ⟨u4, y4, c0, c1, c2, c3, c4, d0, d1, d2, d3, d4⟩
              clear hkid hkid' htx hty hx hy c0 c1 c2 c3 c4 d0 d1 d2 d3 d4 hkp
              by_cases h7 : k = 7
              · have hnl := HN1.out.1 h7
                have hnl' := HN2.out.1 h7
                rcases HA1.out with h0 | ⟨gn, rfl, _, hgn, hnc⟩
                · rw [h0] at hnl; simp at hnl; omega
                rcases HA2.out with h0 | ⟨gn', rfl, _, hgn', hnc'⟩
                · rw [h0] at hnl'; simp at hnl'; omega
                have s1 : wr.cell? ⟨gn, m, none⟩ = some (.string (nm.getD m ByteArray.empty)) := (hwb.cell hgn).trans (hnc m (by omega))
                have s2 : wr.cell? ⟨gn', m, none⟩ = some (.string (nm'.getD m ByteArray.empty)) := (hwb.cell hgn').trans (hnc' m (by omega))
                have hf1 : Tr.nmOf k nm m = nm.getD m ByteArray.empty := by unfold Tr.nmOf; rw [if_pos h7]
                have hf2 : Tr.nmOf k nm' m = nm'.getD m ByteArray.empty := by unfold Tr.nmOf; rw [if_pos h7]
                rw [hf1, hf2] at HSP
                obtain ⟨nx, hnx1⟩ : ∃ nx, nx = nm.getD m ByteArray.empty := ⟨_, rfl⟩
                obtain ⟨ny, hny1⟩ : ∃ ny, ny = nm'.getD m ByteArray.empty := ⟨_, rfl⟩
                rw [← hnx1] at s1 HSP
                rw [← hny1] at s2 HSP
                have j4 : (m : Int) < (nm.length : Int) := by omega
                have j5 : (m : Int) < (nm'.length : Int) := by omega
                subst h7
                clear hnc hnc' hf1 hf2 hnx1 hny1 hnl hnl'
                have HSP1 : Hid (_ = _) := HSP
                clear HSP
                go_wp2_with fail
                go_region_held3 (fun w' => w'.cell? ⟨w.heap.size, 3, none⟩ = some (.slice (some ⟨gn, 0, none⟩) nm.length cn) ∧ w'.cell? ⟨w.heap.size + 1, 3, none⟩ = some (.slice (some ⟨gn', 0, none⟩) nm'.length cn') ∧ w'.cell? ⟨gn, m, none⟩ = some (.string nx) ∧ w'.cell? ⟨gn', m, none⟩ = some (.string ny)) (exact ⟨u3, y3, s1, s2⟩)
                  ((go_at_call 95; refine (l2Texts_any nx ny _).mono ?_; rintro e w2 ⟨rfl, rfl⟩))
                obtain ⟨E, hE⟩ : ∃ E, E = txtCmp nx ny := ⟨_, rfl⟩
                rw [← hE]
                have HSP : Hid (_ = _) := HSP1.out
                rw [← hE] at HSP
                clear hE HSP1
                by_cases hE0 : E = 0
                · subst hE0
                  rw [or2_zero] at HSP
                  go_wp2_with fail
                  go_region_held3 (fun w' => w'.cell? ⟨w.heap.size, 4, none⟩ = some (.slice (some ⟨g, 0, none⟩) ks.length ck) ∧ w'.cell? ⟨w.heap.size + 1, 4, none⟩ = some (.slice (some ⟨g', 0, none⟩) ks'.length ck') ∧ w'.cell? ⟨g, m * 5, none⟩ = some (.int .i64 x.kind) ∧ w'.cell? ⟨g, m * 5 + 1, none⟩ = some (.int .i64 x.num) ∧ w'.cell? ⟨g, m * 5 + 2, none⟩ = some (.string x.text) ∧ w'.cell? ⟨g, m * 5 + 3, none⟩ = some (.slice xan x.names.length xcn) ∧ w'.cell? ⟨g, m * 5 + 4, none⟩ = some (.slice xak x.kids.length xck) ∧ w'.cell? ⟨g', m * 5, none⟩ = some (.int .i64 y.kind) ∧ w'.cell? ⟨g', m * 5 + 1, none⟩ = some (.int .i64 y.num) ∧ w'.cell? ⟨g', m * 5 + 2, none⟩ = some (.string y.text) ∧ w'.cell? ⟨g', m * 5 + 3, none⟩ = some (.slice yan y.names.length ycn) ∧ w'.cell? ⟨g', m * 5 + 4, none⟩ = some (.slice yak y.kids.length yck)) (first | exact HST.out | exact HST2.out)
                    ((go_at_call 83; refine (HS.out y _ _ _ (HTX.out.below ((Below.refl _ _).drew.drew)) (HTY.out.below ((Below.refl _ _).drew.drew)) HXN.out HYN.out hcx hcy).mono ?_; rintro e w2 ⟨rfl, hb2⟩; have HST2 : Hid (w2.cell? ⟨w.heap.size, 4, none⟩ = some (.slice (some ⟨g, 0, none⟩) ks.length ck) ∧ w2.cell? ⟨w.heap.size + 1, 4, none⟩ = some (.slice (some ⟨g', 0, none⟩) ks'.length ck') ∧ w2.cell? ⟨g, m * 5, none⟩ = some (.int .i64 x.kind) ∧ w2.cell? ⟨g, m * 5 + 1, none⟩ = some (.int .i64 x.num) ∧ w2.cell? ⟨g, m * 5 + 2, none⟩ = some (.string x.text) ∧ w2.cell? ⟨g, m * 5 + 3, none⟩ = some (.slice xan x.names.length xcn) ∧ w2.cell? ⟨g, m * 5 + 4, none⟩ = some (.slice xak x.kids.length xck) ∧ w2.cell? ⟨g', m * 5, none⟩ = some (.int .i64 y.kind) ∧ w2.cell? ⟨g', m * 5 + 1, none⟩ = some (.int .i64 y.num) ∧ w2.cell? ⟨g', m * 5 + 2, none⟩ = some (.string y.text) ∧ w2.cell? ⟨g', m * 5 + 3, none⟩ = some (.slice yan y.names.length ycn) ∧ w2.cell? ⟨g', m * 5 + 4, none⟩ = some (.slice yak y.kids.length yck)) := ⟨(hb2.cell h0w).trans HST.out.1, (hb2.cell h1w).trans HST.out.2.1, (hb2.cell hgw).trans HST.out.2.2.1, (hb2.cell hgw).trans HST.out.2.2.2.1, (hb2.cell hgw).trans HST.out.2.2.2.2.1, (hb2.cell hgw).trans HST.out.2.2.2.2.2.1, (hb2.cell hgw).trans HST.out.2.2.2.2.2.2.1, (hb2.cell hgw').trans HST.out.2.2.2.2.2.2.2.1, (hb2.cell hgw').trans HST.out.2.2.2.2.2.2.2.2.1, (hb2.cell hgw').trans HST.out.2.2.2.2.2.2.2.2.2.1, (hb2.cell hgw').trans HST.out.2.2.2.2.2.2.2.2.2.2.1, (hb2.cell hgw').trans HST.out.2.2.2.2.2.2.2.2.2.2.2⟩))
                  have HB2 : Hid (Below W.heap.size W w2) := hnx.trans ((((Below.refl _ _).drew.drew)).mono hz |>.trans (hb2.mono hz))
                  obtain ⟨D, hD⟩ : ∃ D, D = x.cmp y := ⟨_, rfl⟩
                  rw [← hD]
                  rw [← hD] at HSP
                  clear hb2 HST2 hD
                  by_cases hD0 : D = 0
                  · subst hD0
                    rw [or2_zero] at HSP
                    go_wp2_with fail
                    go_roundw
                    case rel => exact ⟨m + 1, by omega, by omega, by go_num, HSP, HB2.out⟩
                    case measure => simp [intOf]; omega
                  · have hDb : (D == 0) = false := by simpa using hD0
                    rw [or2_ne hD0] at HSP
                    go_wp2_with fail
                    go_ret
                    exact ⟨by rw [HR2.out, HSP.out]; rfl, HBW.out.trans (HB2.out.mono HBW.out.size)⟩
                · have hEb : (E == 0) = false := by simpa using hE0
                  rw [or2_ne hE0] at HSP
                  go_wp2_with fail
                  go_ret
                  exact ⟨by rw [HR2.out, HSP.out]; rfl, HBW.out.trans ((hnx.trans ((Below.refl _ _).drew.mono hz)).mono HBW.out.size)⟩
              · have h7b : (k == 7) = false := by simpa using h7
                have hf1 : Tr.nmOf k nm m = ByteArray.empty := by unfold Tr.nmOf; rw [if_neg h7]
                have hf2 : Tr.nmOf k nm' m = ByteArray.empty := by unfold Tr.nmOf; rw [if_neg h7]
                rw [hf1, hf2, txtCmp_self, or2_zero] at HSP
                have HSP1 : Hid (_ = _) := HSP
                clear HSP hf1 hf2
                have HSP : Hid (_ = _) := HSP1.out
                clear HSP1
                go_wp2_with fail
                go_region_held3 (fun w' => w'.cell? ⟨w.heap.size, 4, none⟩ = some (.slice (some ⟨g, 0, none⟩) ks.length ck) ∧ w'.cell? ⟨w.heap.size + 1, 4, none⟩ = some (.slice (some ⟨g', 0, none⟩) ks'.length ck') ∧ w'.cell? ⟨g, m * 5, none⟩ = some (.int .i64 x.kind) ∧ w'.cell? ⟨g, m * 5 + 1, none⟩ = some (.int .i64 x.num) ∧ w'.cell? ⟨g, m * 5 + 2, none⟩ = some (.string x.text) ∧ w'.cell? ⟨g, m * 5 + 3, none⟩ = some (.slice xan x.names.length xcn) ∧ w'.cell? ⟨g, m * 5 + 4, none⟩ = some (.slice xak x.kids.length xck) ∧ w'.cell? ⟨g', m * 5, none⟩ = some (.int .i64 y.kind) ∧ w'.cell? ⟨g', m * 5 + 1, none⟩ = some (.int .i64 y.num) ∧ w'.cell? ⟨g', m * 5 + 2, none⟩ = some (.string y.text) ∧ w'.cell? ⟨g', m * 5 + 3, none⟩ = some (.slice yan y.names.length ycn) ∧ w'.cell? ⟨g', m * 5 + 4, none⟩ = some (.slice yak y.kids.length yck)) (first | exact HST.out | exact HST2.out)
                  ((go_at_call 83; refine (HS.out y _ _ _ (HTX.out.below ((Below.refl _ _).drew)) (HTY.out.below ((Below.refl _ _).drew)) HXN.out HYN.out hcx hcy).mono ?_; rintro e w2 ⟨rfl, hb2⟩; have HST2 : Hid (w2.cell? ⟨w.heap.size, 4, none⟩ = some (.slice (some ⟨g, 0, none⟩) ks.length ck) ∧ w2.cell? ⟨w.heap.size + 1, 4, none⟩ = some (.slice (some ⟨g', 0, none⟩) ks'.length ck') ∧ w2.cell? ⟨g, m * 5, none⟩ = some (.int .i64 x.kind) ∧ w2.cell? ⟨g, m * 5 + 1, none⟩ = some (.int .i64 x.num) ∧ w2.cell? ⟨g, m * 5 + 2, none⟩ = some (.string x.text) ∧ w2.cell? ⟨g, m * 5 + 3, none⟩ = some (.slice xan x.names.length xcn) ∧ w2.cell? ⟨g, m * 5 + 4, none⟩ = some (.slice xak x.kids.length xck) ∧ w2.cell? ⟨g', m * 5, none⟩ = some (.int .i64 y.kind) ∧ w2.cell? ⟨g', m * 5 + 1, none⟩ = some (.int .i64 y.num) ∧ w2.cell? ⟨g', m * 5 + 2, none⟩ = some (.string y.text) ∧ w2.cell? ⟨g', m * 5 + 3, none⟩ = some (.slice yan y.names.length ycn) ∧ w2.cell? ⟨g', m * 5 + 4, none⟩ = some (.slice yak y.kids.length yck)) := ⟨(hb2.cell h0w).trans HST.out.1, (hb2.cell h1w).trans HST.out.2.1, (hb2.cell hgw).trans HST.out.2.2.1, (hb2.cell hgw).trans HST.out.2.2.2.1, (hb2.cell hgw).trans HST.out.2.2.2.2.1, (hb2.cell hgw).trans HST.out.2.2.2.2.2.1, (hb2.cell hgw).trans HST.out.2.2.2.2.2.2.1, (hb2.cell hgw').trans HST.out.2.2.2.2.2.2.2.1, (hb2.cell hgw').trans HST.out.2.2.2.2.2.2.2.2.1, (hb2.cell hgw').trans HST.out.2.2.2.2.2.2.2.2.2.1, (hb2.cell hgw').trans HST.out.2.2.2.2.2.2.2.2.2.2.1, (hb2.cell hgw').trans HST.out.2.2.2.2.2.2.2.2.2.2.2⟩))
                have HB2 : Hid (Below W.heap.size W w2) := hnx.trans ((((Below.refl _ _).drew)).mono hz |>.trans (hb2.mono hz))
                obtain ⟨D, hD⟩ : ∃ D, D = x.cmp y := ⟨_, rfl⟩
                rw [← hD]
                rw [← hD] at HSP
                clear hb2 HST2 hD
                by_cases hD0 : D = 0
                · subst hD0
                  rw [or2_zero] at HSP
                  go_wp2_with fail
                  go_roundw
                  case rel => exact ⟨m + 1, by omega, by omega, by go_num, HSP, HB2.out⟩
                  case measure => simp [intOf]; omega
                · have hDb : (D == 0) = false := by simpa using hD0
                  rw [or2_ne hD0] at HSP
                  go_wp2_with fail
                  go_ret
                  exact ⟨by rw [HR2.out, HSP.out]; rfl, HBW.out.trans (HB2.out.mono HBW.out.size)⟩
            · obtain rfl : m = ks'.length := by omega
              have HS : Hid (Tr.cmps ks (Tr.nmOf k nm) (Tr.nmOf k nm') 0 ks' = 1) := by
                show _ = _
                rw [HL.out, List.drop_length, cmps_more hlt]
              go_wp2_with fail
              go_ret
              exact ⟨by rw [HR2.out, HS.out]; rfl, hwb⟩
          · obtain rfl : m = ks.length := by omega
            have HS : Hid (Tr.cmps ks (Tr.nmOf k nm) (Tr.nmOf k nm') 0 ks' = intCmp (ks.length : Nat) (ks'.length : Nat)) := by
              show _ = _
              rw [HL.out, List.drop_length, cmps_done rfl hm2]
            go_wp2_with fail
            refine (l2Ints_any _ _ _).mono ?_
            rintro e w' ⟨rfl, rfl⟩
            go_wp2_with fail
            go_ret
            exact ⟨by rw [HR2.out, HS.out]; rfl, hwb⟩
  · have hCb : (C == 0) = false := by simpa using hC0
    have HR2 : Hid ((Tr.mk k n t nm ks).cmp (.mk k' n' t' nm' ks') = C) := by
      show _ = _
      rw [HR.out, ← HC.out, or2_ne hC0]
    go_wp2_with fail
    go_ret
    exact ⟨by rw [HR2.out]; rfl, HBW.out⟩

theorem l2Compare_any (t : Tr) : CmpSaid t := Tr.ind (P := CmpSaid) (fun k n t nm ks ih => l2Compare_step k n t nm ks ih) t

end Go.Proofs.YtjohocnfcnjciaaGreatDoor
namespace Go.Proofs.YtjohocnfcnjciaaGreatDoor
open Go.RowKit
set_option linter.unusedVariables false

def z5 : Value := .slice none 0 0
set_option maxRecDepth 100000 in
set_option maxHeartbeats 4000000 in
theorem l3Get_any (t : Tr) (v : Value) (a : Option Addr) (ca m : Nat) (f : Nat → ByteArray) (w : World) (h : Tree w t v) (hnd : t.named) (hc : t.cnt ≤ 2 ^ 20) (hm : m ≤ 2 ^ 20) (ha : ArgS w a m f) :
    Calls Tryz.prog 82 #[v, .slice a m ca] w (GotIs t (lst f m) w) := by
  obtain ⟨k, n, tx, nm, ks⟩ := t
  obtain ⟨an, cn, ak, ck, rfl⟩ := h.head
  dsimp only [Tr.kind, Tr.num, Tr.text, Tr.names, Tr.kids] at h ⊢
  have HT : Hid (Tree w (.mk k n tx nm ks) (.agg #[.int .i64 k, .int .i64 n, .string tx, .slice an nm.length cn, .slice ak ks.length ck]) ∧ (Tr.mk k n tx nm ks).named ∧ (Tr.mk k n tx nm ks).cnt ≤ 2 ^ 20) := ⟨h, hnd, hc⟩
  have HA : Hid (ArgS w a m f) := ha
  have hf0 := fiveAt_new w (.int .i64 k) (.int .i64 n) (.string tx) (.slice an nm.length cn) (.slice ak ks.length ck) 67
  have hf1 := fiveAt_new (w.alloc (.cells #[.int .i64 k, .int .i64 n, .string tx, .slice an nm.length cn, .slice ak ks.length ck] 67)) (.int .i64 0) (.int .i64 0) (.string ⟨#[]⟩) (.slice none 0 0) (.slice none 0 0) 67
  rw [World.size_alloc] at hf1
  have HF0 : Hid (FiveAt ((w.alloc (.cells #[.int .i64 k, .int .i64 n, .string tx, .slice an nm.length cn, .slice ak ks.length ck] 67)).alloc (.cells #[.int .i64 0, .int .i64 0, .string ⟨#[]⟩, .slice none 0 0, .slice none 0 0] 67)) w.heap.size (.int .i64 k) (.int .i64 n) (.string tx) (.slice an nm.length cn) (.slice ak ks.length ck)) := hf0.below ((Below.refl _ _).alloc (Nat.le_refl _) _) (by simp)
  have HF1 : Hid (FiveAt ((w.alloc (.cells #[.int .i64 k, .int .i64 n, .string tx, .slice an nm.length cn, .slice ak ks.length ck] 67)).alloc (.cells #[.int .i64 0, .int .i64 0, .string ⟨#[]⟩, .slice none 0 0, .slice none 0 0] 67)) (w.heap.size + 1) (.int .i64 0) (.int .i64 0) (.string ⟨#[]⟩) (.slice none 0 0) (.slice none 0 0)) := hf1
  clear h hnd ha hf0 hf1 hc
  go_enter Tryz.func82, Tryz.ntmps82
  go_wp2_with fail
  go_loopw [11] (fun iv wr => ∃ (i : Nat) (k' n' : Int) (tx' : ByteArray) (nm' : List ByteArray) (ks' : List Tr) (an' : Option Addr) (cn' : Nat) (ak' : Option Addr) (ck' : Nat), i ≤ m ∧ iv = .int .i64 (i : Int) ∧ w.heap.size + 1 < wr.heap.size ∧
      Hid ((Tree w (.mk k' n' tx' nm' ks') (.agg #[.int .i64 k', .int .i64 n', .string tx', .slice an' nm'.length cn', .slice ak' ks'.length ck']) ∧ (Tr.mk k' n' tx' nm' ks').named ∧ (Tr.mk k' n' tx' nm' ks').cnt ≤ 2 ^ 20) ∧ getT (.mk k n tx nm ks) (lst f m) = getT (.mk k' n' tx' nm' ks') ((lst f m).drop i)) ∧
      Hid (Below w.heap.size w wr ∧ FiveAt wr w.heap.size (.int .i64 k') (.int .i64 n') (.string tx') (.slice an' nm'.length cn') (.slice ak' ks'.length ck') ∧ FiveAt wr (w.heap.size + 1) (.int .i64 0) (.int .i64 0) (.string ⟨#[]⟩) (.slice none 0 0) (.slice none 0 0))) (fun iv _ => m - (intOf iv).toNat)
  case atStart => exact ⟨0, k, n, tx, nm, ks, an, cn, ak, ck, Nat.zero_le _, rfl, by simp, ⟨HT.out, rfl⟩, ((Below.refl _ w).alloc (Nat.le_refl _) _).alloc (by simp) _, HF0.out, HF1.out⟩
  case round =>
    obtain ⟨i, k', n', tx', nm', ks', an', cn', ak', ck', hi, rfl, hz, HS, HW⟩ := hrel
    have hz' : w.heap.size < wr.heap.size := by omega
    obtain ⟨hnx, ⟨⟨x0, x1, x2, x3, x4⟩, f0, f1, f2, f3, f4⟩, ⟨y0, y1, y2, y3, y4⟩, g0, g1, g2, g3, g4⟩ := HW.out
    by_cases hlt : i < m
    · rcases HA.out with h0' | ⟨ba, oa, rfl, hba, haa⟩
      · omega
      have a0 := (hnx.cell hba).trans (haa i hlt)
      have i0 : (0 : Int) ≤ (i : Int) := by omega
      have i1 : (i : Int) < (m : Int) := by omega
      have HG : Hid (getT (.mk k n tx nm ks) (lst f m) = (atI k' nm' (f i) ks'.length).bind fun j => (ks'[j]?).bind fun x => getT x ((lst f m).drop (i + 1))) := by
        show _ = _
        rw [HS.out.2, lst_drop f hlt, getT]
        rfl
      have HB : Hid (Below w.heap.size w wr) := hnx
      have hkl : ks'.length ≤ 2 ^ 20 := by
        have h1 := Tr.len_cnts ks'
        have h2 := HS.out.1.2.2
        rw [Tr.cnt] at h2
        omega
      have hnm7 : k' = 7 → nm'.length = ks'.length := by
        have := HS.out.1.2.1
        rw [Tr.named] at this
        exact this.1
      clear haa hnx
      go_wp2_with fail
      refine (l3At_any k' n' tx' nm' ks' _ (f i) _ (HS.out.1.1.below (HB.out)) hnm7 hkl).mono ?_
      rintro e w1 ⟨rfl, hb1⟩
      have hz1 : w.heap.size + 1 < w1.heap.size := Nat.lt_of_lt_of_le hz hb1.size
      have HB1 : Hid (Below w.heap.size w w1) := HB.out.trans (hb1.mono (by omega))
      have hF := HW.out.2.1.below hb1 hz'
      have hR := HW.out.2.2.below hb1 hz
      obtain ⟨⟨u0, u1, u2, u3, u4⟩, p0, p1, p2, p3, p4⟩ := id hF
      obtain ⟨⟨v0, v1, v2, v3, v4⟩, q0, q1, q2, q3, q4⟩ := id hR
      have HF : Hid (FiveAt w1 w.heap.size (.int .i64 k') (.int .i64 n') (.string tx') (.slice an' nm'.length cn') (.slice ak' ks'.length ck')) := hF
      have HR : Hid (FiveAt w1 (w.heap.size + 1) (.int .i64 0) (.int .i64 0) (.string ⟨#[]⟩) (.slice none 0 0) (.slice none 0 0)) := hR
      clear hb1 x0 x1 x2 x3 x4 f0 f1 f2 f3 f4 y0 y1 y2 y3 y4 g0 g1 g2 g3 g4 hF hR
      cases hat : atI k' nm' (f i) ks'.length with
      | none =>
        have HN : Hid (getT (.mk k n tx nm ks) (lst f m) = none) := by show _ = _; rw [HG.out, hat]; rfl
        have hlt0 : (-1 : Int) < 0 := by decide
        rw [show atV none = (-1 : Int) from rfl]
        have HQ := HR.out.set (.int .i64 0) (.int .i64 0) (.string ⟨#[]⟩) (.slice none 0 0) (.slice none 0 0)
        obtain ⟨⟨⟨s0, s1, s2, s3, s4⟩, _⟩, hbb⟩ := id HQ
        have HBF : Hid (Below w.heap.size w (((((w1.setCell ⟨w.heap.size + 1, 0, none⟩ (.int .i64 0)).setCell ⟨w.heap.size + 1, 1, none⟩ (.int .i64 0)).setCell ⟨w.heap.size + 1, 2, none⟩ (.string ⟨#[]⟩)).setCell ⟨w.heap.size + 1, 3, none⟩ (.slice none 0 0)).setCell ⟨w.heap.size + 1, 4, none⟩ (.slice none 0 0))) := HB1.out.trans ((hbb w.heap.size).below (Nat.le_refl _) (by omega))
        clear HQ hbb
        go_wp2_with fail
        exact bodyPost_ret (v := .tuple #[.agg #[.int .i64 0, .int .i64 0, .string ⟨#[]⟩, .slice none 0 0, .slice none 0 0], .bool false]) (by simp [results, Tryz.results82, go_sem, s0, s1, s2, s3, s4]) rfl ⟨_, _, _, _, _, _, _, _, _, by rw [HN.out]; rfl, fun x hx => by rw [HN.out] at hx; simp at hx, HBF.out⟩
      | some j =>
        have hjl : j < ks'.length := atI_lt hat
        obtain ⟨x, hx⟩ : ∃ x, ks'[j]? = some x := ⟨ks'[j], List.getElem?_eq_getElem hjl⟩
        have HN : Hid (getT (.mk k n tx nm ks) (lst f m) = getT x ((lst f m).drop (i + 1))) := by show _ = _; rw [HG.out, hat]; show (ks'[j]?).bind _ = _; rw [hx]; rfl
        obtain ⟨g, rfl, hgl, hkid⟩ := Tree.kid (t := .mk k' n' tx' nm' ks') HS.out.1.1 hx
        obtain ⟨an2, cn2, ak2, ck2, _, _, _, _, _, htr⟩ := hkid.cells
        obtain ⟨c0, c1, c2, c3, c4⟩ : w1.cell? ⟨g, j * 5, none⟩ = some (.int .i64 x.kind) ∧ w1.cell? ⟨g, j * 5 + 1, none⟩ = some (.int .i64 x.num) ∧ w1.cell? ⟨g, j * 5 + 2, none⟩ = some (.string x.text) ∧ w1.cell? ⟨g, j * 5 + 3, none⟩ = some (.slice an2 x.names.length cn2) ∧ w1.cell? ⟨g, j * 5 + 4, none⟩ = some (.slice ak2 x.kids.length ck2) := by
          refine ⟨?_, ?_, ?_, ?_, ?_⟩ <;> rw [HB1.out.cell (by show g < _; omega)] <;> assumption
        have hnj : ¬ ((j : Int) < 0) := by omega
        have j0 : (0 : Int) ≤ (j : Int) := by omega
        have j1 : (j : Int) < (ks'.length : Int) := by omega
        rw [show atV (some j) = (j : Int) from rfl]
        have HQ := HF.out.set (.int .i64 x.kind) (.int .i64 x.num) (.string x.text) (.slice an2 x.names.length cn2) (.slice ak2 x.kids.length ck2)
        have HBF : Hid (Below w.heap.size w (((((w1.setCell ⟨w.heap.size, 0, none⟩ (.int .i64 x.kind)).setCell ⟨w.heap.size, 1, none⟩ (.int .i64 x.num)).setCell ⟨w.heap.size, 2, none⟩ (.string x.text)).setCell ⟨w.heap.size, 3, none⟩ (.slice an2 x.names.length cn2)).setCell ⟨w.heap.size, 4, none⟩ (.slice ak2 x.kids.length ck2))) := HB1.out.trans ((HQ.2 w.heap.size).below (Nat.le_refl _) (Nat.le_refl _))
        have HRF := HR.out.but (HQ.2 w1.heap.size) hz1 (by omega)
        have HQ1 : Hid (FiveAt (((((w1.setCell ⟨w.heap.size, 0, none⟩ (.int .i64 x.kind)).setCell ⟨w.heap.size, 1, none⟩ (.int .i64 x.num)).setCell ⟨w.heap.size, 2, none⟩ (.string x.text)).setCell ⟨w.heap.size, 3, none⟩ (.slice an2 x.names.length cn2)).setCell ⟨w.heap.size, 4, none⟩ (.slice ak2 x.kids.length ck2)) w.heap.size (.int .i64 x.kind) (.int .i64 x.num) (.string x.text) (.slice an2 x.names.length cn2) (.slice ak2 x.kids.length ck2) ∧ FiveAt (((((w1.setCell ⟨w.heap.size, 0, none⟩ (.int .i64 x.kind)).setCell ⟨w.heap.size, 1, none⟩ (.int .i64 x.num)).setCell ⟨w.heap.size, 2, none⟩ (.string x.text)).setCell ⟨w.heap.size, 3, none⟩ (.slice an2 x.names.length cn2)).setCell ⟨w.heap.size, 4, none⟩ (.slice ak2 x.kids.length ck2)) (w.heap.size + 1) (.int .i64 0) (.int .i64 0) (.string ⟨#[]⟩) (.slice none 0 0) (.slice none 0 0)) := ⟨HQ.1, HRF⟩
        have hxm := List.mem_of_getElem? hx
        have HX : Hid (x.named ∧ x.cnt ≤ 2 ^ 20) := by
          have h1 := HS.out.1.2.1
          rw [Tr.named] at h1
          have h2 := HS.out.1.2.2
          rw [Tr.cnt] at h2
          have h3 := Tr.cnt_mem hxm
          exact ⟨Tr.nameds_mem.1 h1.2 x hxm, by omega⟩
        have HTX : Hid (Tree w x (.agg #[.int .i64 x.kind, .int .i64 x.num, .string x.text, .slice an2 x.names.length cn2, .slice ak2 x.kids.length ck2])) := htr
        clear HQ HRF hkid htr
        go_wp2_with fail
        go_roundw
        case rel =>
          refine ⟨i + 1, x.kind, x.num, x.text, x.names, x.kids, an2, cn2, ak2, ck2, by omega, by go_num, by simpa [World.setCell] using hz1, ?_, HBF.out, HQ1.out⟩
          obtain ⟨_, _, _, _, _⟩ := x
          exact ⟨⟨HTX.out, HX.out⟩, HN.out⟩
        case measure => simp [intOf]; omega
    · obtain rfl : i = m := by omega
      have HN : Hid (getT (.mk k n tx nm ks) (lst f i) = some (.mk k' n' tx' nm' ks')) := by
        show _ = _
        rw [HS.out.2, List.drop_of_length_le (by rw [lst_length]; exact Nat.le_refl _), getT]
      have HQ := HW.out.2.2.set (.int .i64 k') (.int .i64 n') (.string tx') (.slice an' nm'.length cn') (.slice ak' ks'.length ck')
      obtain ⟨⟨⟨s0, s1, s2, s3, s4⟩, _⟩, hbb⟩ := id HQ
      have HBF : Hid (Below w.heap.size w (((((wr.setCell ⟨w.heap.size + 1, 0, none⟩ (.int .i64 k')).setCell ⟨w.heap.size + 1, 1, none⟩ (.int .i64 n')).setCell ⟨w.heap.size + 1, 2, none⟩ (.string tx')).setCell ⟨w.heap.size + 1, 3, none⟩ (.slice an' nm'.length cn')).setCell ⟨w.heap.size + 1, 4, none⟩ (.slice ak' ks'.length ck'))) := HW.out.1.trans ((hbb w.heap.size).below (Nat.le_refl _) (by omega))
      clear HQ hbb hnx
      go_wp2_with fail
      exact bodyPost_ret (v := .tuple #[.agg #[.int .i64 k', .int .i64 n', .string tx', .slice an' nm'.length cn', .slice ak' ks'.length ck'], .bool true]) (by simp [results, Tryz.results82, go_sem, s0, s1, s2, s3, s4]) rfl ⟨_, _, _, _, _, _, _, _, _, by rw [HN.out]; rfl, fun x hx => by rw [HN.out] at hx; simp at hx; subst hx; exact HS.out.1.1.below HBF.out, HBF.out⟩

end Go.Proofs.YtjohocnfcnjciaaGreatDoor
namespace Go.Proofs.YtjohocnfcnjciaaGreatDoor
open Go.RowKit
set_option linter.unusedVariables false

theorem kidsTo_len (N : Nat → Nd) (k : Nat) : ∀ j, (kidsTo N k j).length ≤ j := by
  intro j
  induction j with
  | zero => exact Nat.le_refl _
  | succ j ih =>
    rw [kidsTo]
    split
    · rw [List.length_append]; simp; omega
    · omega
theorem leaf_kinds {kd : Int} {p : ByteArray} {m : Nat} {X : Nat → Nd} {u : Nat} {K : Nat → Int} {t y : Tr} (h : getT t (nmsL p) = some y) (h4 : kd ≠ 4) (h5 : kd ≠ 5) (hk : y.kind ≠ (tree X m 0).kind) : leafM ⟨kd, p, m, X, u, K⟩ t = false := by
  unfold leafM
  rw [h]
  simp only [h4, h5, if_false]
  rw [if_pos hk]

set_option maxRecDepth 100000 in
set_option maxHeartbeats 4000000 in
theorem l5Match_leaf (w0 : World) (a : Option Addr) (c t : Nat) (F : Nat → Tm) (N : Nat → Nd) (n : Nat) (hg : GoodV N n) (hF : FArg w0 a t F) (ht : t ≤ 2 ^ 20) (k : Nat) (hk : k < t) (hL : LeafOK (F k)) (hps : (F k).path.size ≤ 2 ^ 20) : MsSaid w0 a c t F (tree N n 0) k := by
  intro q w v hq hw hv
  obtain ⟨b, off, va, vc, ka, kc, rfl, hb, a0, a1, a2, a3, hvl, hkk⟩ := hF.at hk
  have zW := hw.size
  have hpath := leaf_path hL
  have hgood := leaf_good hL
  have hk15 := hL.2
  have hqe : q = leafM (F k) (tree N n 0) := by
    rw [hq, clF, if_neg (show ¬ (F k).kind = 6 by omega), if_neg (show ¬ (F k).kind = 7 by omega), if_neg (show ¬ (F k).kind = 8 by omega), Cl.hits]
  replace a0 := (hw.cell hb).trans a0
  replace a1 := (hw.cell hb).trans a1
  replace a2 := (hw.cell hb).trans a2
  replace a3 := (hw.cell hb).trans a3
  have HV : Hid (ArgIs w va (F k).n (F k).N) := hvl.below hw
  obtain ⟨x, hx⟩ : ∃ x, x = F k := ⟨_, rfl⟩
  rw [← hx] at a0 a1 a2 a3 hpath hgood hk15 hqe HV hps
  obtain ⟨kd, p, m, X, u, K⟩ := x
  dsimp only at a0 a1 a2 a3 hpath hgood hk15 HV hps
  have s1 : p.data.toList.length ≤ 2 ^ 20 := by rw [Array.length_toList]; exact hps
  have i0 : (0 : Int) ≤ (k : Int) := by omega
  have i1 : (k : Int) < (t : Int) := by omega
  have hbw : b < w.heap.size := by omega
  have hn80 : n ≤ 80 := hg.1.2.1
  have h0n : 0 < n := hg.1.1
  obtain ⟨an, cn, ak, ck, rfl⟩ := hv.head
  obtain ⟨tr, htr⟩ : ∃ tr, tr = tree N n 0 := ⟨_, rfl⟩
  have HGET : Hid (∀ y, getT tr (nmsL p) = some y → y.named ∧ y.cnt ≤ 80 ∧ ∃ kk, kk < n ∧ y = tree N n kk) := fun y hy => by
    rw [htr, get_go hg _ 0 h0n] at hy
    obtain ⟨kk, h1, rfl⟩ := Option.map_eq_some_iff.1 hy
    have h2 := goN_lt _ 0 kk h0n h1
    exact ⟨tree_named N n (n - kk) kk rfl h2, Nat.le_trans (tree_cnt_le hg h2) hn80, kk, h2, rfl⟩
  have HTN : Hid (tr.named ∧ tr.cnt ≤ 2 ^ 20) := by rw [htr]; exact ⟨tree_named N n n 0 rfl h0n, by have := tree_cnt_le hg h0n; omega⟩
  rw [← htr] at hv hqe ⊢
  obtain ⟨kk, hkk'⟩ : ∃ kk, kk = tr.kind := ⟨_, rfl⟩
  obtain ⟨nn, hnn⟩ : ∃ nn, nn = tr.num := ⟨_, rfl⟩
  obtain ⟨tx, htx⟩ : ∃ tx, tx = tr.text := ⟨_, rfl⟩
  obtain ⟨ln, hln⟩ : ∃ ln, ln = tr.names.length := ⟨_, rfl⟩
  obtain ⟨lk, hlk⟩ : ∃ lk, lk = tr.kids.length := ⟨_, rfl⟩
  rw [← hkk', ← hnn, ← htx, ← hln, ← hlk] at hv ⊢
  have HT : Hid (Tree w tr (.agg #[.int .i64 kk, .int .i64 nn, .string tx, .slice an ln cn, .slice ak lk ck])) := hv
  have HQ : Hid (q = leafM ⟨kd, p, m, X, u, K⟩ tr) := hqe
  have HP : Hid (PathIs p) := hpath
  have HGX : Hid (kd ≠ 4 → GoodV X m) := hgood
  obtain ⟨kb0, kb1⟩ := hk15
  have k6 : ¬ kd = 6 := by omega
  have k7 : ¬ kd = 7 := by omega
  have k8 : ¬ kd = 8 := by omega
  clear hF hw hq hqe hv hpath hgood hL hvl hkk hx htr hkk' hnn htx hln hlk hg
  go_enter Tryz.func55, Tryz.ntmps55
  go_wp2_with fail
  obtain ⟨W, hW⟩ : ∃ W, W = ((w.alloc (.cells #[.slice (some ⟨b, off, none⟩) t c] 34)).alloc (.cells #[.int .i64 kk, .int .i64 nn, .string tx, .slice an ln cn, .slice ak lk ck] 67)).alloc (.cells #[.int .i64 kd, .string p, .slice va m vc, .slice ka u kc] 90) := ⟨_, rfl⟩
  have bW : Below w.heap.size w W := by rw [hW]; exact (((Below.refl _ _).alloc (Nat.le_refl _) _).alloc (by simp) _).alloc (by simp; omega) _
  have zz2 : w.heap.size + 1 + 1 < W.heap.size := by rw [hW]; simp
  have v0 : W.cell? ⟨w.heap.size + 1, 0, none⟩ = some (.int .i64 kk) := by rw [hW]; simp [go_sem]
  have v1 : W.cell? ⟨w.heap.size + 1, 1, none⟩ = some (.int .i64 nn) := by rw [hW]; simp [go_sem]
  have v2 : W.cell? ⟨w.heap.size + 1, 2, none⟩ = some (.string tx) := by rw [hW]; simp [go_sem]
  have v3 : W.cell? ⟨w.heap.size + 1, 3, none⟩ = some (.slice an ln cn) := by rw [hW]; simp [go_sem]
  have v4 : W.cell? ⟨w.heap.size + 1, 4, none⟩ = some (.slice ak lk ck) := by rw [hW]; simp [go_sem]
  have t0 : W.cell? ⟨w.heap.size + 1 + 1, 0, none⟩ = some (.int .i64 kd) := by rw [hW]; simp [go_sem]
  have t2 : W.cell? ⟨w.heap.size + 1 + 1, 2, none⟩ = some (.slice va m vc) := by rw [hW]; simp [go_sem]
  rw [← hW]
  have HBW : Hid (Below w.heap.size w W) := bW
  clear hW bW a0 a1 a2 a3
  refine (show Calls Tryz.prog 51 #[.string p] _ (NamesIs p.data.toList _) from l3Path_any p.data.toList _ s1).mono ?_
  rintro e w1 ⟨vv, g, rfl, hg1, hos, hb1⟩
  have hvv : ∃ pa pc, vv = .slice pa (namesN p.data.toList) pc := by
    obtain ⟨pa, pc, e, _⟩ := hos
    exact ⟨pa, pc, e⟩
  obtain ⟨pa, pc, rfl⟩ := hvv
  have z1 := hb1.size
  have l1 : w.heap.size + 1 < W.heap.size := by omega
  replace v0 := (hb1.cell l1).trans v0
  replace v1 := (hb1.cell l1).trans v1
  replace v2 := (hb1.cell l1).trans v2
  replace v3 := (hb1.cell l1).trans v3
  replace v4 := (hb1.cell l1).trans v4
  replace t0 := (hb1.cell zz2).trans t0
  replace t2 := (hb1.cell zz2).trans t2
  have HB1 : Hid (Below w.heap.size w w1) := HBW.out.trans (hb1.mono HBW.out.size)
  have HAS : Hid (ArgS w1 pa (namesN p.data.toList) (namesF p.data.toList)) := hos.argv
  have h61 := names60 p.data.toList
  obtain ⟨nm, hnm⟩ : ∃ nm, nm = namesN p.data.toList := ⟨_, rfl⟩
  obtain ⟨ff, hff⟩ : ∃ ff, ff = namesF p.data.toList := ⟨_, rfl⟩
  have HNM : Hid (nmsL p = lst ff nm) := by rw [hnm, hff]; rfl
  have hsome : (namesL p.data.toList).isSome = true := HP.out
  rw [← hnm, ← hff] at HAS
  rw [← hnm] at h61
  rw [← hnm, hsome]
  clear hos hb1 hg1 hnm hff hsome l1
  go_wp2_with fail
  refine (l3Get_any tr _ pa pc nm ff w1 (HT.out.below HB1.out) HTN.out.1 HTN.out.2 (by omega) HAS.out).mono ?_
  rintro e w2 ⟨xk, xn, xt, xa, xm, xc, xka, xkm, xkc, rfl, hgot, hb2⟩
  rw [← HNM.out] at hgot ⊢
  have z2 := hb2.size
  have l2 : w.heap.size + 1 + 1 < w1.heap.size := by omega
  replace t0 := (hb2.cell l2).trans t0
  replace t2 := (hb2.cell l2).trans t2
  have HB2 : Hid (Below w.heap.size w w2) := HB1.out.trans (hb2.mono HB1.out.size)
  have l3 : w.heap.size + 1 + 1 < w2.heap.size := by omega
  clear hb2 v0 v1 v2 v3 v4 l2
  cases hy : getT tr (nmsL p) with
  | none =>
    have hqf : q = false := by rw [HQ.out]; exact leaf_none hy
    subst hqf
    clear hgot hy
    go_wp2
    go_ret
    exact ⟨rfl, HB2.out.trans ((Below.refl _ _).alloc HB2.out.size _)⟩
  | some y =>
    obtain ⟨hyn, hyc, kq, hkq, hyt⟩ := HGET.out y hy
    have htr := hgot y hy
    have hyk : xk = y.kind := by
      obtain ⟨a', c', a'', c'', e⟩ := htr.head
      injection e with e
      have := congrArg (fun z : Array Value => z[0]?) e
      simpa using this
    have HY : Hid (getT tr (nmsL p) = some y) := hy
    have HYT : Hid (Tree w2 y (.agg #[.int .i64 xk, .int .i64 xn, .string xt, .slice xa xm xc, .slice xka xkm xkc]) ∧ y.named ∧ y.cnt ≤ 2 ^ 20) := ⟨htr, hyn, by omega⟩
    have HYK : Hid (xk = y.kind) := hyk
    clear hgot hy htr hyk hyn hyc hyt hkq
    by_cases k4 : kd = 4
    · subst k4
      have hqf : q = true := by rw [HQ.out]; exact leaf_has HY.out
      subst hqf
      go_wp2
      go_ret
      exact ⟨rfl, HB2.out.trans ((Below.refl _ _).alloc HB2.out.size _)⟩
    · have hgx := HGX.out k4
      have m0 : 0 < m := hgx.1.1
      have m80 : m ≤ 80 := hgx.1.2.1
      have HGV : Hid (GoodV X m) := hgx
      have al2 : ∀ o, Below w2.heap.size w2 (w2.alloc o) := fun o => (Below.refl _ _).alloc (Nat.le_refl _) o
      have HXT : Hid ((tree X m 0).named ∧ (tree X m 0).cnt ≤ 2 ^ 20) := ⟨tree_named X m m 0 rfl m0, by have := tree_cnt_le hgx m0; omega⟩
      clear hgx
      go_wp2_with fail
      refine (l1Tree_any X m m80 m 0 (by omega) m0 va vc _ (HV.out.below (HB2.out.trans ((al2 _).mono HB2.out.size)))).mono ?_
      rintro e w3 ⟨ya, yc, ym, yka, ykc, ykm, rfl, hyt, hb3⟩
      obtain ⟨yk, hyk⟩ : ∃ yk, yk = (X 0).kind := ⟨_, rfl⟩
      obtain ⟨yn, hyn⟩ : ∃ yn, yn = (X 0).num := ⟨_, rfl⟩
      obtain ⟨yt, hyt'⟩ : ∃ yt, yt = (X 0).text := ⟨_, rfl⟩
      have HYX : Hid (yk = (tree X m 0).kind) := by show _ = _; rw [hyk, tree_kind m0]
      rw [← hyk, ← hyn, ← hyt'] at hyt
      rw [← hyk, ← hyn, ← hyt']
      have z3 := hb3.size
      simp at z3
      have hb23 : Below w2.heap.size w2 w3 := (al2 _).trans (hb3.mono (by simp))
      have x0 : w3.cell? ⟨w2.heap.size, 0, none⟩ = some (.int .i64 xk) := by rw [hb3.cell (by simp)]; simp [go_sem]
      have x1 : w3.cell? ⟨w2.heap.size, 1, none⟩ = some (.int .i64 xn) := by rw [hb3.cell (by simp)]; simp [go_sem]
      have x2 : w3.cell? ⟨w2.heap.size, 2, none⟩ = some (.string xt) := by rw [hb3.cell (by simp)]; simp [go_sem]
      have x3 : w3.cell? ⟨w2.heap.size, 3, none⟩ = some (.slice xa xm xc) := by rw [hb3.cell (by simp)]; simp [go_sem]
      have x4 : w3.cell? ⟨w2.heap.size, 4, none⟩ = some (.slice xka xkm xkc) := by rw [hb3.cell (by simp)]; simp [go_sem]
      have t03 : w3.cell? ⟨w.heap.size + 1 + 1, 0, none⟩ = some (.int .i64 kd) := (hb23.cell l3).trans t0
      have HB3 : Hid (Below w.heap.size w w3) := HB2.out.trans (hb23.mono HB2.out.size)
      have HYT3 : Hid (Tree w3 y (.agg #[.int .i64 xk, .int .i64 xn, .string xt, .slice xa xm xc, .slice xka xkm xkc])) := HYT.out.1.below hb23
      have HTT3 : Hid (Tree w3 (tree X m 0) (.agg #[.int .i64 yk, .int .i64 yn, .string yt, .slice ya ym yc, .slice yka ykm ykc])) := hyt.any
      have l4 : w2.heap.size < w3.heap.size := by omega
      have l5 : w.heap.size + 1 + 1 < w3.heap.size := by omega
      have al3 : ∀ o, Below w3.heap.size w3 (w3.alloc o) := fun o => (Below.refl _ _).alloc (Nat.le_refl _) o
      clear hyt hb3 hb23 hyk hyn hyt' al2 t0 t2
      by_cases k5 : kd = 5
      · subst k5
        have HR : Hid (q = (tree X m 0).kids.any fun x => y.cmp x == 0) := HQ.out.trans (leaf_in HY.out)
        obtain ⟨TT, hTT⟩ : ∃ TT, TT = tree X m 0 := ⟨_, rfl⟩
        rw [← hTT] at HR HTT3 HXT
        have HKIDS : Hid (∀ x ∈ TT.kids, x.named ∧ x.cnt ≤ 2 ^ 20) := fun x hx => by
          rw [hTT, tree_kids m0] at hx
          obtain ⟨pp, hpp, rfl⟩ := List.mem_map.1 hx
          have h2 := (kidsTo_mem hpp).2.1
          exact ⟨tree_named X m (m - pp) pp rfl h2, by have := tree_cnt_le HGV.out h2; omega⟩
        have hkl : ykm = TT.kids.length := by
          obtain ⟨a', c', a'', c'', e⟩ := HTT3.out.head
          injection e with e
          have := congrArg (fun z : Array Value => z[4]?) e
          simp at this
          exact this.2.1
        have kl80 : TT.kids.length ≤ 80 := by
          rw [hTT, tree_kids m0, List.length_map]
          exact Nat.le_trans (kidsTo_len X 0 m) m80
        have HKID : Hid (∀ (W : World), Below w3.heap.size w3 W → ∀ (j : Nat) (x : Tr), TT.kids[j]? = some x → ∃ g, yka = some ⟨g, 0, none⟩ ∧ g < W.heap.size ∧ KidAt W (fun _ => True) x g j) := fun W hW j x hx => by
          have hT := HTT3.out.below hW
          obtain ⟨a', c', a'', c'', e⟩ := hT.head
          have e4 := congrArg (fun z : Value => match z with | .agg z => z[4]? | _ => none) e
          simp at e4
          rw [e] at hT
          obtain ⟨g, h1, h2, h3⟩ := hT.kid hx
          exact ⟨g, by rw [e4.1]; exact h1, h2, h3⟩
        subst hkl
        have HLK : Hid (TT.kids.length ≤ 80) := kl80
        clear hTT
        go_wp2_with fail
        go_loopw [95] (fun i wr => ∃ j : Nat, j ≤ TT.kids.length ∧ i = .int .i64 (j : Int) ∧ Below w3.heap.size w3 wr ∧ (wr.cell? ⟨w2.heap.size, 0, none⟩ = some (.int .i64 xk) ∧ wr.cell? ⟨w2.heap.size, 1, none⟩ = some (.int .i64 xn) ∧ wr.cell? ⟨w2.heap.size, 2, none⟩ = some (.string xt) ∧ wr.cell? ⟨w2.heap.size, 3, none⟩ = some (.slice xa xm xc) ∧ wr.cell? ⟨w2.heap.size, 4, none⟩ = some (.slice xka xkm xkc)) ∧ Hid (∀ (j' : Nat) (x : Tr), j' < j → TT.kids[j']? = some x → (y.cmp x == 0) = false)) (fun i _ => TT.kids.length - (intOf i).toNat)
        case atStart => exact ⟨0, Nat.zero_le _, rfl, al3 _, ⟨by simp [World.cell?_alloc_past, l4, x0], by simp [World.cell?_alloc_past, l4, x1], by simp [World.cell?_alloc_past, l4, x2], by simp [World.cell?_alloc_past, l4, x3], by simp [World.cell?_alloc_past, l4, x4]⟩, fun j' x h => by omega⟩
        case round =>
          rename World => xr
          clear x0 x1 x2 x3 x4
          obtain ⟨j, hj, rfl, hnx, ⟨x0, x1, x2, x3, x4⟩, HNO⟩ := hrel
          have zr := hnx.size
          have lx : w2.heap.size < xr.heap.size := by omega
          by_cases hlt : j < TT.kids.length
          · obtain ⟨x, hx⟩ : ∃ x, TT.kids[j]? = some x := ⟨_, List.getElem?_eq_getElem hlt⟩
            obtain ⟨g, rfl, hgx, hkid⟩ := HKID.out xr hnx j x hx
            obtain ⟨pan, pcn, pak, pck, c0, c1, c2, c3, c4, hpt⟩ := hkid.cells
            obtain ⟨hxn, hxc⟩ := HKIDS.out x (List.mem_of_getElem? hx)
            obtain ⟨pk, hpk⟩ : ∃ pk, pk = x.kind := ⟨_, rfl⟩
            obtain ⟨pn, hpn⟩ : ∃ pn, pn = x.num := ⟨_, rfl⟩
            obtain ⟨pt, hpt'⟩ : ∃ pt, pt = x.text := ⟨_, rfl⟩
            obtain ⟨pl, hpl⟩ : ∃ pl, pl = x.names.length := ⟨_, rfl⟩
            obtain ⟨ql, hql⟩ : ∃ ql, ql = x.kids.length := ⟨_, rfl⟩
            rw [← hpk] at c0 hpt
            rw [← hpn] at c1 hpt
            rw [← hpt'] at c2 hpt
            rw [← hpl] at c3 hpt
            rw [← hql] at c4 hpt
            have HPT : Hid (Tree xr x (.agg #[.int .i64 pk, .int .i64 pn, .string pt, .slice pan pl pcn, .slice pak ql pck])) := hpt
            have HX : Hid (TT.kids[j]? = some x ∧ x.named ∧ x.cnt ≤ 2 ^ 20) := ⟨hx, hxn, hxc⟩
            have HYR : Hid (Tree xr y (.agg #[.int .i64 xk, .int .i64 xn, .string xt, .slice xa xm xc, .slice xka xkm xkc])) := HYT3.out.below hnx
            have alr : ∀ o, Below xr.heap.size xr (xr.alloc o) := fun o => (Below.refl _ _).alloc (Nat.le_refl _) o
            have j0 : (0 : Int) ≤ (j : Int) := by omega
            have j1 : (j : Int) < (TT.kids.length : Int) := by omega
            have HNX : Hid (Below w3.heap.size w3 xr) := hnx
            clear hpk hpn hpt' hpl hql hpt hx hxn hxc hnx hkid
            go_wp2_with fail
            refine (l2Compare_any y x _ _ _ (HYR.out.below (alr _)) (HPT.out.below (alr _)) HYT.out.2.1 HX.out.2.1 HYT.out.2.2 HX.out.2.2).mono ?_
            rintro e w4 ⟨rfl, hb4⟩
            have z4 := hb4.size
            simp at z4
            have hbr4 : Below xr.heap.size xr w4 := (alr _).trans (hb4.mono (by simp))
            have HB4 : Hid (Below w3.heap.size w3 w4) := HNX.out.trans (hbr4.mono HNX.out.size)
            have KX : w4.cell? ⟨w2.heap.size, 0, none⟩ = some (.int .i64 xk) ∧ w4.cell? ⟨w2.heap.size, 1, none⟩ = some (.int .i64 xn) ∧ w4.cell? ⟨w2.heap.size, 2, none⟩ = some (.string xt) ∧ w4.cell? ⟨w2.heap.size, 3, none⟩ = some (.slice xa xm xc) ∧ w4.cell? ⟨w2.heap.size, 4, none⟩ = some (.slice xka xkm xkc) := ⟨(hbr4.cell lx).trans x0, (hbr4.cell lx).trans x1, (hbr4.cell lx).trans x2, (hbr4.cell lx).trans x3, (hbr4.cell lx).trans x4⟩
            obtain ⟨cm, hcm⟩ : ∃ cm, cm = y.cmp x := ⟨_, rfl⟩
            have HCM : Hid (cm = y.cmp x) := hcm
            rw [← hcm]
            clear hb4 hbr4 alr c0 c1 c2 c3 c4 x0 x1 x2 x3 x4 hcm
            by_cases hc0 : cm = 0
            · subst hc0
              have hq : q = true := by
                rw [HR.out, List.any_eq_true]
                exact ⟨x, List.mem_of_getElem? HX.out.1, by rw [← HCM.out]; rfl⟩
              subst hq
              go_wp2
              go_ret
              exact ⟨rfl, HB3.out.trans (HB4.out.mono HB3.out.size)⟩
            · have hcb : (cm == 0) = false := by simpa using hc0
              have HN : Hid (∀ (j' : Nat) (x' : Tr), j' < j + 1 → TT.kids[j']? = some x' → (y.cmp x' == 0) = false) := fun j' x' hj' hx' => by
                by_cases e : j' = j
                · subst e
                  rw [HX.out.1] at hx'
                  injection hx' with hx'
                  subst hx'
                  rw [← HCM.out]; exact hcb
                · exact HNO.out j' x' (by omega) hx'
              go_wp2
              go_roundw
              case rel => exact ⟨j + 1, by omega, by go_num, HB4.out, KX, HN⟩
              case measure => simp [intOf]; omega
          · have hq : q = false := by
              rw [HR.out, List.any_eq_false]
              intro x hx
              obtain ⟨i, hi, e⟩ := List.mem_iff_getElem.1 hx
              have := HNO.out i x (by omega) (by rw [List.getElem?_eq_getElem hi, e])
              simpa using this
            subst hq
            go_wp2
            go_ret
            exact ⟨rfl, HB3.out.trans (hnx.mono HB3.out.size)⟩
      · go_wp2_with fail
        refine (l2Compare_any y (tree X m 0) _ _ _ (HYT3.out.below (al3 _)) (HTT3.out.below (al3 _)) HYT.out.2.1 HXT.out.1 HYT.out.2.2 HXT.out.2).mono ?_
        rintro e w4 ⟨rfl, hb4⟩
        have z4 := hb4.size
        simp at z4
        obtain ⟨cm, hcm⟩ : ∃ cm, cm = y.cmp (tree X m 0) := ⟨_, rfl⟩
        have HCM : Hid (cm = y.cmp (tree X m 0)) := hcm
        rw [← hcm]
        have hb34 : Below w3.heap.size w3 w4 := (al3 _).trans (hb4.mono (by simp))
        have xk4 : w4.cell? ⟨w2.heap.size, 0, none⟩ = some (.int .i64 xk) := (hb34.cell l4).trans x0
        have yk4 : w4.cell? ⟨w3.heap.size, 0, none⟩ = some (.int .i64 yk) := by rw [hb4.cell (by simp)]; simp [go_sem]
        have t04 : w4.cell? ⟨w.heap.size + 1 + 1, 0, none⟩ = some (.int .i64 kd) := (hb34.cell l5).trans t03
        have HB4 : Hid (Below w.heap.size w w4) := HB3.out.trans (hb34.mono HB3.out.size)
        clear hcm hb4 hb34 al3 x0 x1 x2 x3 x4 t03
        by_cases hkk : xk = yk
        · have HKE : Hid (y.kind = (tree X m 0).kind) := by show _ = _; rw [← HYK.out, ← HYX.out]; exact hkk
          subst hkk
          by_cases k2 : kd = 2
          · subst k2
            have hq : q = decide (cm < 0) := by rw [HQ.out, leaf_lt HY.out, HCM.out, decide_eq_true HKE.out, Bool.true_and]
            subst hq
            go_wp2
            go_ret
            exact ⟨rfl, HB4.out⟩
          · by_cases k3 : kd = 3
            · subst k3
              have hq : q = decide (0 < cm) := by rw [HQ.out, leaf_gt HY.out, HCM.out, decide_eq_true HKE.out, Bool.true_and]
              subst hq
              go_wp2
              go_ret
              exact ⟨rfl, HB4.out⟩
            · have k1 : kd = 1 := by omega
              subst k1
              have hq : q = (cm == 0) := by rw [HQ.out, leaf_eq HY.out, HCM.out]
              subst hq
              go_wp2
              go_ret
              exact ⟨rfl, HB4.out⟩
        · have hq : q = false := by rw [HQ.out]; exact leaf_kinds HY.out k4 k5 (by rw [← HYK.out, ← HYX.out]; exact hkk)
          subst hq
          go_wp2
          go_ret
          exact ⟨rfl, HB4.out⟩

end Go.Proofs.YtjohocnfcnjciaaGreatDoor
namespace Go.Proofs.YtjohocnfcnjciaaGreatDoor
open Go.RowKit
set_option linter.unusedVariables false

/-- The method of a clause. -/
def mfn : Cl → Nat
  | .leaf _ => 164
  | .all _ => 190
  | .any _ => 191
  | .neg _ => 192
/-- The value that is asked lies in w0, and the tables do. -/
def AskV (w0 : World) (b n : Nat) (a : Option Addr) (c : Nat) (N : Nat → Nd) : Prop := OwnAt w0 b (.slice a n c) n N ∧ GoodV N n ∧ n ≤ c ∧ Tab w0.heap.size w0 ∧ ML w0
/-- What matches answers. -/
def MtSaid (w0 : World) (n : Nat) (a : Option Addr) (c : Nat) (N : Nat → Nd) (C : Cl) : Prop := ∀ (q : Bool) (w : World) (S : Nat → Prop) (T : TypeId) (y : Value), q = C.hits (tree N n 0) → Below w0.heap.size w0 w → ClIs w0 w S C (.iface T y) →
    Calls Tryz.prog (mfn C) #[y, .agg #[.slice a n c]] w fun e w' => e = .returned (.bool q) ∧ Below w.heap.size w w'

theorem match_leaf (w0 : World) (b n : Nat) (a : Option Addr) (c : Nat) (N : Nat → Nd) (hV : AskV w0 b n a c N) (x : Tm) (hL : LeafOK x) : MtSaid w0 n a c N (.leaf x) := by
  intro q w S T y hq hw h
  rw [ClIs] at h
  obtain ⟨cc, e, hc⟩ := h
  injection e with e1 e2
  subst e1 e2
  obtain ⟨h1, h2, h3, h4, h5⟩ := hV
  rw [hq, Cl.hits]
  exact matchLeaf_any x cc b n a c N w ⟨hc.1.below hw, hc.2⟩ hL (h1.below hw) h2 h3 (h4.up hw) (h5.below hw)

set_option maxRecDepth 100000 in
set_option maxHeartbeats 4000000 in
theorem match_all (w0 : World) (n : Nat) (a : Option Addr) (c : Nat) (N : Nat → Nd) (l : List Cl) (hl : l.length ≤ 2 ^ 21) (ih : ∀ C ∈ l, MtSaid w0 n a c N C) : MtSaid w0 n a c N (.all l) := by
  intro q w S T y hq hw h
  rw [ClIs] at h
  obtain ⟨ka, kc, e, hS⟩ := h
  injection e with e1 e2
  subst e1 e2
  have HI : Hid (∀ C ∈ l, MtSaid w0 n a c N C) := ih
  have HS : Hid (l = [] ∨ ∃ g, ka = some ⟨g, 0, none⟩ ∧ S g ∧ g < w.heap.size ∧ ClsAt w0 w S l g 0) := hS
  have HW : Hid (Below w0.heap.size w0 w) := hw
  have HQ : Hid (q = (Cl.all l).hits (tree N n 0)) := hq
  have zW := hw.size
  obtain ⟨k, hk⟩ : ∃ k, k = l.length := ⟨_, rfl⟩
  have HK : Hid (k = l.length) := hk
  rw [← hk] at hl ⊢
  clear hS ih hw hq hk
  show Calls Tryz.prog 190 _ _ _
  go_enter Tryz.func190, Tryz.ntmps190
  go_wp2_with fail
  go_loopw [10] (fun i wr => ∃ j : Nat, j ≤ k ∧ i = .int .i64 (j : Int) ∧ Below w.heap.size w wr ∧ wr.cell? ⟨w.heap.size + 1, 0, none⟩ = some (.slice a n c) ∧ w.heap.size + 1 < wr.heap.size ∧ Hid (∀ (j' : Nat) (C : Cl), j' < j → l[j']? = some C → C.hits (tree N n 0) = true)) (fun i _ => k - (intOf i).toNat)
  case atStart => exact ⟨0, Nat.zero_le _, rfl, ((Below.refl _ _).alloc (Nat.le_refl _) _).alloc (by simp) _, by simp [go_sem], by simp, fun j' C h => by omega⟩
  case round =>
    obtain ⟨j, hj, rfl, hnx, cv, zv, HT⟩ := hrel
    have zr := hnx.size
    by_cases hlt : j < k
    · have hjl : j < l.length := by have := HK.out; omega
      rcases HS.out with h0 | ⟨g0, rfl, hS0, hg0, hat⟩
      · rw [h0] at hjl; simp at hjl
      obtain ⟨C, hC⟩ : ∃ C, l[j]? = some C := ⟨_, List.getElem?_eq_getElem hjl⟩
      have hCm : C ∈ l := List.mem_of_getElem? hC
      obtain ⟨u, hu, hcu⟩ := clsAt_iff.1 hat j C hC
      rw [Nat.zero_add] at hu
      obtain ⟨T0, y0, rfl⟩ := hcu.form
      have d0 := (hnx.cell hg0).trans hu
      have hcu' : ClIs w0 wr S C (.iface T0 y0) := ClIs.keep (fun b _ hb => hnx.block b hb) (fun b hb _ => hb) hnx.size _ _ hcu
      have HCALL : Hid (Calls Tryz.prog (mfn C) #[y0, .agg #[.slice a n c]] wr fun e w' => e = .returned (.bool (C.hits (tree N n 0))) ∧ Below wr.heap.size wr w') := HI.out C hCm _ wr S T0 y0 rfl (HW.out.trans (hnx.mono zW)) hcu'
      have HC : Hid (l[j]? = some C) := hC
      have j0 : (0 : Int) ≤ (j : Int) := by omega
      have j1 : (j : Int) < (k : Int) := by omega
      have hgw : g0 < wr.heap.size := by omega
      have HNX : Hid (Below w.heap.size w wr) := hnx
      obtain ⟨qc, hqc⟩ : ∃ qc, qc = C.hits (tree N n 0) := ⟨_, rfl⟩
      have HQC : Hid (qc = C.hits (tree N n 0)) := hqc
      rw [← hqc] at HCALL
      have HST : Hid (qc = false → q = false) := fun h => by rw [HQ.out]; exact all_fails hC (by rw [← hqc]; exact h)
      have HGO : Hid (qc = true → ∀ (j' : Nat) (C' : Cl), j' < j + 1 → l[j']? = some C' → C'.hits (tree N n 0) = true) := fun h j' C' hj' hC' => by
        by_cases e : j' = j
        · subst e
          rw [hC] at hC'
          injection hC' with hC'
          subst hC'
          rw [← hqc]; exact h
        · exact HT.out j' C' (by omega) hC'
      clear hat hC hCm hu hnx hcu hqc
      cases C with
      | leaf x =>
        rw [ClIs] at hcu'
        obtain ⟨cc, e, _⟩ := hcu'
        injection e with e1 e2
        subst e1 e2
        go_wp2_with fail
        refine (HCALL.out).mono ?_
        rintro e w2 ⟨rfl, hb2⟩
        have z2 := hb2.size
        have cv2 : w2.cell? ⟨w.heap.size + 1, 0, none⟩ = some (.slice a n c) := (hb2.cell (by show w.heap.size + 1 < _; omega)).trans cv
        have HB2 : Hid (Below w.heap.size w w2) := HNX.out.trans (hb2.mono HNX.out.size)
        clear hb2 HCALL
        cases qc with
        | false =>
          have hq := HST.out rfl
          subst hq
          go_wp2
          go_ret
          exact ⟨rfl, HB2.out⟩
        | true =>
          have HG := HGO.out rfl
          go_wp2
          go_roundw
          case rel => exact ⟨j + 1, by omega, by go_num, HB2.out, cv2, by omega, HG⟩
          case measure => simp [intOf]; omega
      | all l' =>
        rw [ClIs] at hcu'
        obtain ⟨ka', kc', e, _⟩ := hcu'
        injection e with e1 e2
        subst e1 e2
        go_wp2_with fail
        refine (HCALL.out).mono ?_
        rintro e w2 ⟨rfl, hb2⟩
        have z2 := hb2.size
        have cv2 : w2.cell? ⟨w.heap.size + 1, 0, none⟩ = some (.slice a n c) := (hb2.cell (by show w.heap.size + 1 < _; omega)).trans cv
        have HB2 : Hid (Below w.heap.size w w2) := HNX.out.trans (hb2.mono HNX.out.size)
        clear hb2 HCALL
        cases qc with
        | false =>
          have hq := HST.out rfl
          subst hq
          go_wp2
          go_ret
          exact ⟨rfl, HB2.out⟩
        | true =>
          have HG := HGO.out rfl
          go_wp2
          go_roundw
          case rel => exact ⟨j + 1, by omega, by go_num, HB2.out, cv2, by omega, HG⟩
          case measure => simp [intOf]; omega
      | any l' =>
        rw [ClIs] at hcu'
        obtain ⟨ka', kc', e, _⟩ := hcu'
        injection e with e1 e2
        subst e1 e2
        go_wp2_with fail
        refine (HCALL.out).mono ?_
        rintro e w2 ⟨rfl, hb2⟩
        have z2 := hb2.size
        have cv2 : w2.cell? ⟨w.heap.size + 1, 0, none⟩ = some (.slice a n c) := (hb2.cell (by show w.heap.size + 1 < _; omega)).trans cv
        have HB2 : Hid (Below w.heap.size w w2) := HNX.out.trans (hb2.mono HNX.out.size)
        clear hb2 HCALL
        cases qc with
        | false =>
          have hq := HST.out rfl
          subst hq
          go_wp2
          go_ret
          exact ⟨rfl, HB2.out⟩
        | true =>
          have HG := HGO.out rfl
          go_wp2
          go_roundw
          case rel => exact ⟨j + 1, by omega, by go_num, HB2.out, cv2, by omega, HG⟩
          case measure => simp [intOf]; omega
      | neg c' =>
        rw [ClIs] at hcu'
        obtain ⟨u', e, _⟩ := hcu'
        injection e with e1 e2
        subst e1 e2
        go_wp2_with fail
        refine (HCALL.out).mono ?_
        rintro e w2 ⟨rfl, hb2⟩
        have z2 := hb2.size
        have cv2 : w2.cell? ⟨w.heap.size + 1, 0, none⟩ = some (.slice a n c) := (hb2.cell (by show w.heap.size + 1 < _; omega)).trans cv
        have HB2 : Hid (Below w.heap.size w w2) := HNX.out.trans (hb2.mono HNX.out.size)
        clear hb2 HCALL
        cases qc with
        | false =>
          have hq := HST.out rfl
          subst hq
          go_wp2
          go_ret
          exact ⟨rfl, HB2.out⟩
        | true =>
          have HG := HGO.out rfl
          go_wp2
          go_roundw
          case rel => exact ⟨j + 1, by omega, by go_num, HB2.out, cv2, by omega, HG⟩
          case measure => simp [intOf]; omega
    · have hq : q = true := by
        rw [HQ.out]
        have hjk : j = l.length := by have := HK.out; omega
        exact all_holds fun j' C' hj' hC' => HT.out j' C' (by omega) hC'
      subst hq
      go_wp2
      go_ret
      exact ⟨rfl, hnx⟩

set_option maxRecDepth 100000 in
set_option maxHeartbeats 4000000 in
theorem match_any (w0 : World) (n : Nat) (a : Option Addr) (c : Nat) (N : Nat → Nd) (l : List Cl) (hl : l.length ≤ 2 ^ 21) (ih : ∀ C ∈ l, MtSaid w0 n a c N C) : MtSaid w0 n a c N (.any l) := by
  intro q w S T y hq hw h
  rw [ClIs] at h
  obtain ⟨ka, kc, e, hS⟩ := h
  injection e with e1 e2
  subst e1 e2
  have HI : Hid (∀ C ∈ l, MtSaid w0 n a c N C) := ih
  have HS : Hid (l = [] ∨ ∃ g, ka = some ⟨g, 0, none⟩ ∧ S g ∧ g < w.heap.size ∧ ClsAt w0 w S l g 0) := hS
  have HW : Hid (Below w0.heap.size w0 w) := hw
  have HQ : Hid (q = (Cl.any l).hits (tree N n 0)) := hq
  have zW := hw.size
  obtain ⟨k, hk⟩ : ∃ k, k = l.length := ⟨_, rfl⟩
  have HK : Hid (k = l.length) := hk
  rw [← hk] at hl ⊢
  clear hS ih hw hq hk
  show Calls Tryz.prog 191 _ _ _
  go_enter Tryz.func191, Tryz.ntmps191
  go_wp2_with fail
  go_loopw [10] (fun i wr => ∃ j : Nat, j ≤ k ∧ i = .int .i64 (j : Int) ∧ Below w.heap.size w wr ∧ wr.cell? ⟨w.heap.size + 1, 0, none⟩ = some (.slice a n c) ∧ w.heap.size + 1 < wr.heap.size ∧ Hid (∀ (j' : Nat) (C : Cl), j' < j → l[j']? = some C → C.hits (tree N n 0) = false)) (fun i _ => k - (intOf i).toNat)
  case atStart => exact ⟨0, Nat.zero_le _, rfl, ((Below.refl _ _).alloc (Nat.le_refl _) _).alloc (by simp) _, by simp [go_sem], by simp, fun j' C h => by omega⟩
  case round =>
    obtain ⟨j, hj, rfl, hnx, cv, zv, HT⟩ := hrel
    have zr := hnx.size
    by_cases hlt : j < k
    · have hjl : j < l.length := by have := HK.out; omega
      rcases HS.out with h0 | ⟨g0, rfl, hS0, hg0, hat⟩
      · rw [h0] at hjl; simp at hjl
      obtain ⟨C, hC⟩ : ∃ C, l[j]? = some C := ⟨_, List.getElem?_eq_getElem hjl⟩
      have hCm : C ∈ l := List.mem_of_getElem? hC
      obtain ⟨u, hu, hcu⟩ := clsAt_iff.1 hat j C hC
      rw [Nat.zero_add] at hu
      obtain ⟨T0, y0, rfl⟩ := hcu.form
      have d0 := (hnx.cell hg0).trans hu
      have hcu' : ClIs w0 wr S C (.iface T0 y0) := ClIs.keep (fun b _ hb => hnx.block b hb) (fun b hb _ => hb) hnx.size _ _ hcu
      have HCALL : Hid (Calls Tryz.prog (mfn C) #[y0, .agg #[.slice a n c]] wr fun e w' => e = .returned (.bool (C.hits (tree N n 0))) ∧ Below wr.heap.size wr w') := HI.out C hCm _ wr S T0 y0 rfl (HW.out.trans (hnx.mono zW)) hcu'
      have HC : Hid (l[j]? = some C) := hC
      have j0 : (0 : Int) ≤ (j : Int) := by omega
      have j1 : (j : Int) < (k : Int) := by omega
      have hgw : g0 < wr.heap.size := by omega
      have HNX : Hid (Below w.heap.size w wr) := hnx
      obtain ⟨qc, hqc⟩ : ∃ qc, qc = C.hits (tree N n 0) := ⟨_, rfl⟩
      have HQC : Hid (qc = C.hits (tree N n 0)) := hqc
      rw [← hqc] at HCALL
      have HST : Hid (qc = true → q = true) := fun h => by rw [HQ.out]; exact any_holds hC (by rw [← hqc]; exact h)
      have HGO : Hid (qc = false → ∀ (j' : Nat) (C' : Cl), j' < j + 1 → l[j']? = some C' → C'.hits (tree N n 0) = false) := fun h j' C' hj' hC' => by
        by_cases e : j' = j
        · subst e
          rw [hC] at hC'
          injection hC' with hC'
          subst hC'
          rw [← hqc]; exact h
        · exact HT.out j' C' (by omega) hC'
      clear hat hC hCm hu hnx hcu hqc
      cases C with
      | leaf x =>
        rw [ClIs] at hcu'
        obtain ⟨cc, e, _⟩ := hcu'
        injection e with e1 e2
        subst e1 e2
        go_wp2_with fail
        refine (HCALL.out).mono ?_
        rintro e w2 ⟨rfl, hb2⟩
        have z2 := hb2.size
        have cv2 : w2.cell? ⟨w.heap.size + 1, 0, none⟩ = some (.slice a n c) := (hb2.cell (by show w.heap.size + 1 < _; omega)).trans cv
        have HB2 : Hid (Below w.heap.size w w2) := HNX.out.trans (hb2.mono HNX.out.size)
        clear hb2 HCALL
        cases qc with
        | true =>
          have hq := HST.out rfl
          subst hq
          go_wp2
          go_ret
          exact ⟨rfl, HB2.out⟩
        | false =>
          have HG := HGO.out rfl
          go_wp2
          go_roundw
          case rel => exact ⟨j + 1, by omega, by go_num, HB2.out, cv2, by omega, HG⟩
          case measure => simp [intOf]; omega
      | all l' =>
        rw [ClIs] at hcu'
        obtain ⟨ka', kc', e, _⟩ := hcu'
        injection e with e1 e2
        subst e1 e2
        go_wp2_with fail
        refine (HCALL.out).mono ?_
        rintro e w2 ⟨rfl, hb2⟩
        have z2 := hb2.size
        have cv2 : w2.cell? ⟨w.heap.size + 1, 0, none⟩ = some (.slice a n c) := (hb2.cell (by show w.heap.size + 1 < _; omega)).trans cv
        have HB2 : Hid (Below w.heap.size w w2) := HNX.out.trans (hb2.mono HNX.out.size)
        clear hb2 HCALL
        cases qc with
        | true =>
          have hq := HST.out rfl
          subst hq
          go_wp2
          go_ret
          exact ⟨rfl, HB2.out⟩
        | false =>
          have HG := HGO.out rfl
          go_wp2
          go_roundw
          case rel => exact ⟨j + 1, by omega, by go_num, HB2.out, cv2, by omega, HG⟩
          case measure => simp [intOf]; omega
      | any l' =>
        rw [ClIs] at hcu'
        obtain ⟨ka', kc', e, _⟩ := hcu'
        injection e with e1 e2
        subst e1 e2
        go_wp2_with fail
        refine (HCALL.out).mono ?_
        rintro e w2 ⟨rfl, hb2⟩
        have z2 := hb2.size
        have cv2 : w2.cell? ⟨w.heap.size + 1, 0, none⟩ = some (.slice a n c) := (hb2.cell (by show w.heap.size + 1 < _; omega)).trans cv
        have HB2 : Hid (Below w.heap.size w w2) := HNX.out.trans (hb2.mono HNX.out.size)
        clear hb2 HCALL
        cases qc with
        | true =>
          have hq := HST.out rfl
          subst hq
          go_wp2
          go_ret
          exact ⟨rfl, HB2.out⟩
        | false =>
          have HG := HGO.out rfl
          go_wp2
          go_roundw
          case rel => exact ⟨j + 1, by omega, by go_num, HB2.out, cv2, by omega, HG⟩
          case measure => simp [intOf]; omega
      | neg c' =>
        rw [ClIs] at hcu'
        obtain ⟨u', e, _⟩ := hcu'
        injection e with e1 e2
        subst e1 e2
        go_wp2_with fail
        refine (HCALL.out).mono ?_
        rintro e w2 ⟨rfl, hb2⟩
        have z2 := hb2.size
        have cv2 : w2.cell? ⟨w.heap.size + 1, 0, none⟩ = some (.slice a n c) := (hb2.cell (by show w.heap.size + 1 < _; omega)).trans cv
        have HB2 : Hid (Below w.heap.size w w2) := HNX.out.trans (hb2.mono HNX.out.size)
        clear hb2 HCALL
        cases qc with
        | true =>
          have hq := HST.out rfl
          subst hq
          go_wp2
          go_ret
          exact ⟨rfl, HB2.out⟩
        | false =>
          have HG := HGO.out rfl
          go_wp2
          go_roundw
          case rel => exact ⟨j + 1, by omega, by go_num, HB2.out, cv2, by omega, HG⟩
          case measure => simp [intOf]; omega
    · have hq : q = false := by
        rw [HQ.out]
        have hjk : j = l.length := by have := HK.out; omega
        exact any_fails fun j' C' hj' hC' => HT.out j' C' (by omega) hC'
      subst hq
      go_wp2
      go_ret
      exact ⟨rfl, hnx⟩

set_option maxRecDepth 100000 in
set_option maxHeartbeats 4000000 in
theorem match_neg (w0 : World) (n : Nat) (a : Option Addr) (c : Nat) (N : Nat → Nd) (C : Cl) (ih : MtSaid w0 n a c N C) : MtSaid w0 n a c N (.neg C) := by
  intro q w S T y hq hw h
  rw [ClIs] at h
  obtain ⟨u, e, hcu⟩ := h
  injection e with e1 e2
  subst e1 e2
  obtain ⟨T0, y0, rfl⟩ := hcu.form
  have hal : ∀ o o', Below w.heap.size w ((w.alloc o).alloc o') := fun o o' => ((Below.refl _ _).alloc (Nat.le_refl _) o).alloc (by simp) o'
  have HCALL : Hid (∀ o o', Calls Tryz.prog (mfn C) #[y0, .agg #[.slice a n c]] ((w.alloc o).alloc o') fun e w' => e = .returned (.bool (C.hits (tree N n 0))) ∧ Below w.heap.size w w') := fun o o' => by
    refine (ih _ _ S T0 y0 rfl (hw.trans ((hal o o').mono hw.size)) (ClIs.keep (fun b _ hb => (hal o o').block b hb) (fun b hb _ => hb) (hal o o').size _ _ hcu)).mono ?_
    rintro e w' ⟨h1, h2⟩
    exact ⟨h1, (hal o o').trans (h2.mono (hal o o').size)⟩
  have HQ : Hid (q = !(C.hits (tree N n 0))) := by show _ = _; rw [hq, Cl.hits]
  clear ih hw hq hal
  show Calls Tryz.prog 192 _ _ _
  cases C with
  | leaf x =>
    rw [ClIs] at hcu
    obtain ⟨cc, e, _⟩ := hcu
    injection e with e1 e2
    subst e1 e2
    go_enter Tryz.func192, Tryz.ntmps192
    go_wp2_with fail
    refine (HCALL.out _ _).mono ?_
    rintro e w2 ⟨rfl, hb2⟩
    have HB2 : Hid (Below w.heap.size w w2) := hb2
    clear hb2 HCALL
    go_wp2
    go_ret
    exact ⟨by rw [HQ.out]; rfl, HB2.out⟩
  | all l' =>
    rw [ClIs] at hcu
    obtain ⟨ka', kc', e, _⟩ := hcu
    injection e with e1 e2
    subst e1 e2
    go_enter Tryz.func192, Tryz.ntmps192
    go_wp2_with fail
    refine (HCALL.out _ _).mono ?_
    rintro e w2 ⟨rfl, hb2⟩
    have HB2 : Hid (Below w.heap.size w w2) := hb2
    clear hb2 HCALL
    go_wp2
    go_ret
    exact ⟨by rw [HQ.out]; rfl, HB2.out⟩
  | any l' =>
    rw [ClIs] at hcu
    obtain ⟨ka', kc', e, _⟩ := hcu
    injection e with e1 e2
    subst e1 e2
    go_enter Tryz.func192, Tryz.ntmps192
    go_wp2_with fail
    refine (HCALL.out _ _).mono ?_
    rintro e w2 ⟨rfl, hb2⟩
    have HB2 : Hid (Below w.heap.size w w2) := hb2
    clear hb2 HCALL
    go_wp2
    go_ret
    exact ⟨by rw [HQ.out]; rfl, HB2.out⟩
  | neg c' =>
    rw [ClIs] at hcu
    obtain ⟨u', e, _⟩ := hcu
    injection e with e1 e2
    subst e1 e2
    go_enter Tryz.func192, Tryz.ntmps192
    go_wp2_with fail
    refine (HCALL.out _ _).mono ?_
    rintro e w2 ⟨rfl, hb2⟩
    have HB2 : Hid (Below w.heap.size w w2) := hb2
    clear hb2 HCALL
    go_wp2
    go_ret
    exact ⟨by rw [HQ.out]; rfl, HB2.out⟩

mutual
/-- WHAT MATCHES ANSWERS, for every clause. -/
theorem match_any' (w0 : World) (b n : Nat) (a : Option Addr) (c : Nat) (N : Nat → Nd) (hV : AskV w0 b n a c N) : ∀ C : Cl, C.ok → C.size ≤ 2 ^ 21 → MtSaid w0 n a c N C
  | .leaf x, h, hz => match_leaf w0 b n a c N hV x (by rw [Cl.ok] at h; exact h)
  | .all l, h, hz => match_all w0 n a c N l (by have := Cl.len_sizes l; rw [Cl.size] at hz; omega) (match_alls w0 b n a c N hV l (by rw [Cl.ok] at h; exact h) (by rw [Cl.size] at hz; omega))
  | .any l, h, hz => match_any w0 n a c N l (by have := Cl.len_sizes l; rw [Cl.size] at hz; omega) (match_alls w0 b n a c N hV l (by rw [Cl.ok] at h; exact h) (by rw [Cl.size] at hz; omega))
  | .neg C, h, hz => match_neg w0 n a c N C (match_any' w0 b n a c N hV C (by rw [Cl.ok] at h; exact h) (by rw [Cl.size] at hz; omega))
theorem match_alls (w0 : World) (b n : Nat) (a : Option Addr) (c : Nat) (N : Nat → Nd) (hV : AskV w0 b n a c N) : ∀ l : List Cl, Cl.oks l → Cl.sizes l ≤ 2 ^ 21 → ∀ C ∈ l, MtSaid w0 n a c N C
  | [], _, _ => fun C h => by simp at h
  | d :: l, h, hz => fun C hC => by
    rw [Cl.oks] at h
    rw [Cl.sizes] at hz
    rcases List.mem_cons.1 hC with e | hC
    · rw [e]; exact match_any' w0 b n a c N hV d h.1 (by omega)
    · exact match_alls w0 b n a c N hV l h.2 (by omega) C hC
end

end Go.Proofs.YtjohocnfcnjciaaGreatDoor
