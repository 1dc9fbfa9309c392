/- The specification's own copy of a value. The specification's l5Plain: a filter's term told plain, or turned. Whether a number lies between two, by the specification. The specification's l5Plain at a term above others. The specification's l5Plain at a term that stands alone. -/
import Derived.Test.YtjohocnfcnjciaaGreatDoorClG
import Derived.Deep.RegionLaw
import Derived.Deep.RegionHeld3
import Derived.Test.YtjohocnfcnjciaaGreatDoorGoodOwn
namespace Go.Proofs.YtjohocnfcnjciaaGreatDoor
open Go.RowKit
set_option linter.unusedVariables false

theorem row_empty (W : World) (e : TypeId) (size : Nat) : (W.alloc (.cells #[] e)).ownsRow W.heap.size e size (.slice (some ⟨W.heap.size, 0, none⟩) 0 0) 0 [] :=
  ⟨by simp, .inr ⟨W.heap.size, 0, #[], rfl, Nat.le_refl _, World.alloc_heap_new W _, Nat.le_refl _, Nat.zero_le _, by simp, by simp⟩⟩

set_option maxRecDepth 100000 in
set_option maxHeartbeats 2000000 in
theorem l5OwnValue_any (a : Option Addr) (c n : Nat) (N : Nat → Nd) (w : World) (h : ArgIs w a n N) (hn : n ≤ 2 ^ 20) :
    Calls Tryz.prog 69 #[.agg #[.slice a n c]] w fun e w' => ∃ a' c' g, e = .returned (.agg #[.slice a' n c']) ∧ n ≤ c' ∧ (n ≠ 0 → w.heap.size ≤ g ∧ g < w'.heap.size) ∧ OwnAt w' g (.slice a' n c') n N ∧ Below w.heap.size w w' := by
  have H : Hid (ArgIs w a n N) := h
  clear h
  have HOE : Hid ((((w.alloc (.cells #[.slice a n c] 38)).alloc (.cells #[.slice none 0 0] 38)).alloc (.cells #[] 94)).ownsRow (w.heap.size + 1 + 1) 94 5 (.slice (some ⟨w.heap.size + 1 + 1, 0, none⟩) 0 0) 0 []) := by
    have h := row_empty ((w.alloc (.cells #[.slice a n c] 38)).alloc (.cells #[.slice none 0 0] 38)) 94 5
    show World.ownsRow _ _ _ _ _ _ _
    simpa using h
  have hal : ∀ o o' o'', Below w.heap.size w (((w.alloc o).alloc o').alloc o'') := fun o o' o'' => (((Below.refl _ _).alloc (Nat.le_refl _) o).alloc (by simp) o').alloc (by simp; omega) o''
  go_enter Tryz.func69, Tryz.ntmps69
  go_wp2_with (first | (at_builtin; refine wpList_append_nodes rfl _ _ rfl (w.heap.size + 1 + 1) (.slice (some ⟨w.heap.size + 1 + 1, 0, none⟩) 0 0) rfl HOE.out a n c N rfl (H.out.below (hal _ _ _)) (by omega) (by simp) ?_))
  intro v2 w2 hown2 hg2
  have n30 : n ≤ 2 ^ 30 := by omega
  obtain ⟨av, cv, gv, rfl, hcv, hgv, hov⟩ := own_nodeL hown2 n30
  have z2 := hg2.size
  simp at z2
  have r2 : w2.cell? ⟨w.heap.size + 1, 0, none⟩ = some (.slice none 0 0) := (hg2.cell_far _ (by simp) (by simp [Value.ownBlock])).trans (by simp [go_sem])
  have fr2 : w2.frozen? ⟨w.heap.size + 1, 0, none⟩ = false := (hg2.frozen_far _ (by simp) (by simp [Value.ownBlock])).trans (by simp [go_sem])
  have HB2 : Hid (Below w.heap.size w w2) := (hal _ _ _).grown hg2 (by simp; omega) (fun k hk => by simp [Value.ownBlock] at hk; omega)
  have HGV : Hid (n ≠ 0 → w.heap.size + 1 + 1 ≤ gv ∧ gv < w2.heap.size) := hgv
  have HOV : Hid (OwnAt w2 gv (.slice av n cv) n N) := hov
  have zz : w.heap.size + 1 < w2.heap.size := by omega
  clear hown2 hg2 hov hgv hal HOE
  go_wp2
  refine bodyPost_ret (v := .agg #[.slice av n cv]) (by simp [results, Tryz.results69, go_sem, r2]) rfl ⟨av, cv, gv, rfl, hcv, fun h => ⟨by have := HGV.out h; omega, by have := HGV.out h; simp [World.setCell]; omega⟩, ?_, HB2.out.setCell (by simp) _⟩
  exact HOV.out.butN (BelowBut.setCell _ _ _) (fun h => by have := HGV.out h; omega)

end Go.Proofs.YtjohocnfcnjciaaGreatDoor
namespace Go.Proofs.YtjohocnfcnjciaaGreatDoor
open Go.RowKit
set_option linter.unusedVariables false

/-- What l5Plain answers: its terms behind those of L. -/
def SpSaid (w0 : World) (a : Option Addr) (c t : Nat) (F : Nat → Tm) (k : Nat) : Prop := ∀ (turn : Bool) (C : Cl) (w : World) (X : Nat → Prop) (v : Value) (L : List Tm) (n : Nat) (R : Nat → Tc), C = (if turn then (clF F (k + 1) k).turn else (clF F (k + 1) k).plain) → n = L.length → Below w0.heap.size w0 w → TBldX w w0.heap.size X v n (TL L) R → (∀ q, X q → q < w.heap.size) → n + C.size ≤ 2 ^ 22 →
    Calls Tryz.prog 40 #[.agg #[.slice a t c], .int .i64 k, .bool turn, v] w fun e w' => ∃ v' R', e = .returned v' ∧ TBldX w' w0.heap.size X v' (n + C.size) (TL (L ++ C.emit n)) R' ∧ w.grownBy w' v.ownBlock ∧ Onward w v v'

set_option maxRecDepth 100000 in
set_option maxHeartbeats 4000000 in
theorem l5Plain_not (w0 : World) (a : Option Addr) (c t : Nat) (F : Nat → Tm) (hF : FArg w0 a t F) (hA : Ahead F t) (ht : t ≤ 2 ^ 20) (k : Nat) (hk : k < t) (h8 : (F k).kind = 8) (ih : ∀ p, p < k → SpSaid w0 a c t F p) : SpSaid w0 a c t F k := by
  intro turn C w X v L n R hC hn hw hT hX hz
  obtain ⟨b, off, va, vc, ka, kc, rfl, hb, a0, a1, a2, a3, hv, hkk⟩ := hF.at hk
  have zW := hw.size
  have hm0 := hA.2.1 k hk h8
  obtain ⟨k0, k1⟩ := hA.1 k hk 0 hm0
  obtain ⟨p, hp⟩ : ∃ p : Nat, (F k).K 0 = (p : Int) := ⟨((F k).K 0).toNat, by omega⟩
  have hpk : p < k := by omega
  rcases hkk with h0 | ⟨b', off', rfl, hb', hat⟩
  · omega
  have d0 := (hw.cell hb').trans (hat 0 hm0)
  rw [hp, Nat.add_zero] at d0
  have hCp : C = (if !turn then (clF F (p + 1) p).turn else (clF F (p + 1) p).plain) := by
    have e : clF F (k + 1) k = .neg (clF F (p + 1) p) := by
      rw [clF, if_neg (by omega), if_neg (by omega), if_pos h8, hp, Int.toNat_natCast, clF_same hA.1 hA.2.1 p (by omega) k (p + 1) hpk (by omega)]
    rw [hC, e]
    cases turn
    · simp [Cl.plain]
    · simp [Cl.turn]
  replace a0 := (hw.cell hb).trans a0
  replace a1 := (hw.cell hb).trans a1
  replace a2 := (hw.cell hb).trans a2
  replace a3 := (hw.cell hb).trans a3
  rw [h8] at a0
  have i0 : (0 : Int) ≤ (k : Int) := by omega
  have i1 : (k : Int) < (t : Int) := by omega
  have hbw : b < w.heap.size := by omega
  have hbw' : b' < w.heap.size := by omega
  obtain ⟨m, hm⟩ : ∃ m, m = (F k).m := ⟨_, rfl⟩
  rw [← hm] at a3 hm0
  have m0 : (0 : Int) < (m : Int) := by omega
  obtain ⟨vv, vvc, rfl⟩ := hT.bld.form
  have HI : Hid (∀ W, Below w.heap.size w W → Calls Tryz.prog 40 #[.agg #[.slice (some ⟨b, off, none⟩) t c], .int .i64 p, .bool (!turn), .slice vv n vvc] W fun e w' => ∃ v' R', e = .returned v' ∧ TBldX w' w0.heap.size X v' (n + C.size) (TL (L ++ C.emit n)) R' ∧ W.grownBy w' (Value.slice vv n vvc).ownBlock ∧ Onward W (.slice vv n vvc) v') := fun W hW => by
    have zz := hW.size
    exact ih p hpk (!turn) C W X (.slice vv n vvc) L n R hCp hn (hw.trans (hW.mono zW)) (hT.below hW) (fun q hq => by have := hX q hq; omega) hz
  have hold := hT.old
  have n0 : some w.heap.size ≠ (Value.slice vv n vvc).ownBlock := fun e => by have := hold _ e.symm; omega
  have n1 : some (w.heap.size + 1) ≠ (Value.slice vv n vvc).ownBlock := fun e => by have := hold _ e.symm; omega
  have n2 : some b' ≠ (Value.slice vv n vvc).ownBlock := fun e => by have := hold _ e.symm; omega
  clear hF hA ih hT hX hw hC hCp hn hv hat hp h8 hm hz k0 k1 hold
  go_enter Tryz.func40, Tryz.ntmps40
  go_wp2_with fail
  obtain ⟨W, hW⟩ : ∃ W, W = (w.alloc (.cells #[.slice (some ⟨b, off, none⟩) t c] 34)).alloc (.cells #[.int .i64 8, .string (F k).path, .slice va (F k).n vc, .slice (some ⟨b', off', none⟩) m kc] 90) := ⟨_, rfl⟩
  have bW : Below w.heap.size w W := by rw [hW]; exact ((Below.refl _ _).alloc (Nat.le_refl _) _).alloc (by simp) _
  have zz : w.heap.size + 1 < W.heap.size := by rw [hW]; simp
  have zz0 : w.heap.size < W.heap.size := by omega
  have zz2 : b' < W.heap.size := by omega
  have f0 : W.cell? ⟨w.heap.size, 0, none⟩ = some (.slice (some ⟨b, off, none⟩) t c) := by rw [hW]; simp [go_sem]
  have t3 : W.cell? ⟨w.heap.size + 1, 3, none⟩ = some (.slice (some ⟨b', off', none⟩) m kc) := by rw [hW]; simp [go_sem]
  have e0 : W.cell? ⟨b', off', none⟩ = some (.int .i64 p) := (bW.cell hbw').trans d0
  have HBW : Hid (Below w.heap.size w W) := bW
  have HIW : Hid (Calls Tryz.prog 40 #[.agg #[.slice (some ⟨b, off, none⟩) t c], .int .i64 p, .bool (!turn), .slice vv n vvc] W.drew fun e w' => ∃ v' R', e = .returned v' ∧ TBldX w' w0.heap.size X v' (n + C.size) (TL (L ++ C.emit n)) R' ∧ W.drew.grownBy w' (Value.slice vv n vvc).ownBlock ∧ Onward W.drew (.slice vv n vvc) v') := HI.out _ bW.drew
  rw [← hW]
  clear hW bW a0 a1 a2 a3 d0
  have K0 : W.cell? ⟨w.heap.size, 0, none⟩ = some (.slice (some ⟨b, off, none⟩) t c) ∧ W.cell? ⟨w.heap.size + 1, 3, none⟩ = some (.slice (some ⟨b', off', none⟩) m kc) ∧ W.cell? ⟨b', off', none⟩ = some (.int .i64 p) := ⟨f0, t3, e0⟩
  go_region_held3 (fun w' => w'.cell? ⟨w.heap.size, 0, none⟩ = some (.slice (some ⟨b, off, none⟩) t c) ∧ w'.cell? ⟨w.heap.size + 1, 3, none⟩ = some (.slice (some ⟨b', off', none⟩) m kc) ∧ w'.cell? ⟨b', off', none⟩ = some (.int .i64 p)) (first | go_keep | exact K2 | exact K0 | fail) (first | (go_at_call 40; refine HIW.out.mono ?_; rintro e w2 ⟨v2, R2, rfl, hT2, hg2, ho2⟩; have K2 : w2.cell? ⟨w.heap.size, 0, none⟩ = some (.slice (some ⟨b, off, none⟩) t c) ∧ w2.cell? ⟨w.heap.size + 1, 3, none⟩ = some (.slice (some ⟨b', off', none⟩) m kc) ∧ w2.cell? ⟨b', off', none⟩ = some (.int .i64 p) := ⟨(hg2.cell_far _ zz0 n0).trans f0, (hg2.cell_far _ zz n1).trans t3, (hg2.cell_far _ zz2 n2).trans e0⟩))
  all_goals
    obtain ⟨va2, vc2, rfl⟩ := hT2.bld.form
    have HT2 : Hid (TBldX w2 w0.heap.size X (.slice va2 (n + C.size) vc2) (n + C.size) (TL (L ++ C.emit n)) R2) := hT2
    have HG2 : Hid (w.grownBy w2 (Value.slice vv n vvc).ownBlock ∧ Onward w (.slice vv n vvc) (.slice va2 (n + C.size) vc2)) := by
      refine ⟨grown_after HBW.out.drew hg2, fun q hq => ?_⟩
      rcases ho2 q hq with h | h
      · exact .inl h
      · exact .inr (by have h' : W.heap.size ≤ q := h; omega)
    clear hT2 hg2 ho2 K2 K0 f0 t3 e0
    go_wp2
    go_ret
    exact ⟨_, R2, rfl, HT2.out, HG2.out.1, HG2.out.2⟩

end Go.Proofs.YtjohocnfcnjciaaGreatDoor
namespace Go.Proofs.YtjohocnfcnjciaaGreatDoor
open Go.RowKit
set_option linter.unusedVariables false

set_option maxRecDepth 100000 in
set_option maxHeartbeats 1000000 in
theorem l1In_any (x lo hi : Int) (w : World) : Calls Tryz.prog 49 #[.int .i64 x, .int .i64 lo, .int .i64 hi] w fun e w' => e = .returned (.bool (decide (lo ≤ x) && decide (x ≤ hi))) ∧ Below w.heap.size w w' := by
  by_cases h0 : lo ≤ x
  · go_enter Tryz.func49, Tryz.ntmps49
    go_wp2
    go_ret
    exact ⟨by simp [h0], by go_grown⟩
  · go_enter Tryz.func49, Tryz.ntmps49
    go_wp2
    go_ret
    have h1 : decide (lo ≤ x) = false := decide_eq_false (by omega)
    exact ⟨by rw [h1]; rfl, by go_grown⟩

end Go.Proofs.YtjohocnfcnjciaaGreatDoor
namespace Go.Proofs.YtjohocnfcnjciaaGreatDoor
open Go.RowKit
set_option linter.unusedVariables false

set_option maxRecDepth 100000 in
set_option maxHeartbeats 2000000 in
theorem l5LeafP_any (k : Int) (w : World) :
    Calls Tryz.prog 50 #[.int .i64 k] w fun e w' => e = .returned (.bool (decide (1 ≤ k) && decide (k ≤ 5))) ∧ Below w.heap.size w w' := by
  go_enter Tryz.func50, Tryz.ntmps50
  go_wp2_with fail
  refine (l1In_any k 1 5 _).mono ?_
  rintro e w1 ⟨rfl, hb⟩
  have HB : Hid (Below w.heap.size w w1) := hb
  clear hb
  go_wp2
  go_ret
  exact ⟨rfl, HB.out⟩

/-- A clause as it is told: turned, or plain. -/
def tellC (turn : Bool) (c : Cl) : Cl := if turn then c.turn else c.plain
/-- The kind of the term that is told. -/
def tellK (turn : Bool) (kd : Int) : Int := if turn then 13 - kd else kd

set_option maxRecDepth 100000 in
set_option maxHeartbeats 4000000 in
theorem l5Plain_kids (w0 : World) (a : Option Addr) (c t : Nat) (F : Nat → Tm) (hF : FArg w0 a t F) (hA : Ahead F t) (ht : t ≤ 2 ^ 20) (k : Nat) (hk : k < t) (h67 : (F k).kind = 6 ∨ (F k).kind = 7) (ih : ∀ p, p < k → SpSaid w0 a c t F p) : SpSaid w0 a c t F k := by
  intro turn C w X v L n R hC hn hw hT hX hz
  obtain ⟨b, off, va, vc, ka, kc, rfl, hb, a0, a1, a2, a3, hv, hkk⟩ := hF.at hk
  have zW := hw.size
  obtain ⟨m, hm⟩ : ∃ m, m = (F k).m := ⟨_, rfl⟩
  obtain ⟨kd, hkd⟩ : ∃ kd, kd = (F k).kind := ⟨_, rfl⟩
  obtain ⟨l, hl⟩ : ∃ l, l = (kidsC F k m).map (tellC turn) := ⟨_, rfl⟩
  have hll : l.length = m := by rw [hl, List.length_map, kidsC_len]
  have hCe : C.size = Cl.sizes l + 1 ∧ C.emit n = Cl.emits l n ++ [overT (tellK turn kd) (Cl.nums l n)] := by
    rw [hC, clF, hl, hm, hkd]
    rcases h67 with h | h
    · rw [if_pos h, h]
      cases turn
      · have e : tellC false = Cl.plain := by funext x; simp [tellC]
        simp [tellK, Cl.plain, plains_map, Cl.size, Cl.emit, kidsC, e]
      · have e : tellC true = Cl.turn := by funext x; simp [tellC]
        simp [tellK, Cl.turn, turns_map, Cl.size, Cl.emit, kidsC, e]
    · rw [if_neg (show ¬ (F k).kind = 6 by omega), if_pos h, h]
      cases turn
      · have e : tellC false = Cl.plain := by funext x; simp [tellC]
        simp [tellK, Cl.plain, plains_map, Cl.size, Cl.emit, kidsC, e]
      · have e : tellC true = Cl.turn := by funext x; simp [tellC]
        simp [tellK, Cl.turn, turns_map, Cl.size, Cl.emit, kidsC, e]
  replace a0 := (hw.cell hb).trans a0
  replace a1 := (hw.cell hb).trans a1
  replace a2 := (hw.cell hb).trans a2
  replace a3 := (hw.cell hb).trans a3
  rw [← hm] at a3
  rw [← hkd] at a0
  have k8 : (kd == 8) = false := by rw [hkd]; rcases h67 with h | h <;> rw [h] <;> rfl
  have k8' : ¬ kd = 8 := by rw [hkd]; omega
  have kb : 6 ≤ kd ∧ kd ≤ 7 := by rw [hkd]; omega
  have i0 : (0 : Int) ≤ (k : Int) := by omega
  have i1 : (k : Int) < (t : Int) := by omega
  have hbw : b < w.heap.size := by omega
  have m20 : m ≤ 2 ^ 20 := by rw [hm]; exact hA.2.2 k hk
  obtain ⟨vv, vvc, rfl⟩ := hT.bld.form
  have HKK : Hid (ArgI w0 ka m (F k).K) := by rw [hm]; exact hkk
  have HIH : Hid (∀ p, p < k → SpSaid w0 (some ⟨b, off, none⟩) c t F p) := ih
  have HA : Hid (Ahead F t) := hA
  have HT : Hid (TBldX w w0.heap.size X (.slice vv n vvc) n (TL L) R) := hT
  have HX : Hid (∀ q, X q → q < w.heap.size) := hX
  have HW : Hid (Below w0.heap.size w0 w) := hw
  have HN : Hid (n = L.length ∧ l.length = m ∧ l = (kidsC F k m).map (tellC turn) ∧ m = (F k).m) := ⟨hn, hll, hl, hm⟩
  have HCE : Hid (C.size = Cl.sizes l + 1 ∧ C.emit n = Cl.emits l n ++ [overT (tellK turn kd) (Cl.nums l n)]) := hCe
  have hz2 : n + Cl.sizes l + 1 ≤ 2 ^ 22 := by omega
  obtain ⟨iI, hi, hz0, hz1, hz2'⟩ := info_parts infoInt
  have HII : Hid (Tryz.prog.info? 3 = some iI ∧ iI.zero = some (.int .i64 0) ∧ iI.size = 1 ∧ iI.bytes = 8) := ⟨hi, hz0, hz1, hz2'⟩
  clear hi hz0 hz1 hz2'
  obtain ⟨iT, hi, hz0, hz1, hz2'⟩ := info_parts infoTerm
  have HIT : Hid (Tryz.prog.info? 90 = some iT ∧ iT.zero = some (.agg #[.int .i64 0, .string ⟨#[]⟩, .slice none 0 0, .slice none 0 0]) ∧ iT.size = 4 ∧ iT.bytes = 72) := ⟨hi, hz0, hz1, hz2'⟩
  clear hi hz0 hz1 hz2' hF hA ih hT hX hw hC hn hv hkk hll hl hm hkd hz hCe h67
  go_enter Tryz.func40, Tryz.ntmps40
  go_wp2_with fail
  obtain ⟨W, hW⟩ : ∃ W, W = (w.alloc (.cells #[.slice (some ⟨b, off, none⟩) t c] 34)).alloc (.cells #[.int .i64 kd, .string (F k).path, .slice va (F k).n vc, .slice ka m kc] 90) := ⟨_, rfl⟩
  have bW : Below w.heap.size w W := by rw [hW]; exact ((Below.refl _ _).alloc (Nat.le_refl _) _).alloc (by simp) _
  have zz : w.heap.size + 1 < W.heap.size := by rw [hW]; simp
  have f0 : W.cell? ⟨w.heap.size, 0, none⟩ = some (.slice (some ⟨b, off, none⟩) t c) := by rw [hW]; simp [go_sem]
  have t0 : W.cell? ⟨w.heap.size + 1, 0, none⟩ = some (.int .i64 kd) := by rw [hW]; simp [go_sem]
  have t3 : W.cell? ⟨w.heap.size + 1, 3, none⟩ = some (.slice ka m kc) := by rw [hW]; simp [go_sem]
  rw [← hW]
  have HBW : Hid (Below w.heap.size w W) := bW
  clear hW bW a0 a1 a2 a3
  refine (l5LeafP_any kd _).mono ?_
  rintro e w1 ⟨rfl, hb1⟩
  have hkd5 : (decide (1 ≤ kd) && decide (kd ≤ 5)) = false := by
    have : ¬ kd ≤ 5 := by omega
    simp [this]
  rw [hkd5]
  have z1 := hb1.size
  replace f0 := (hb1.cell (by show w.heap.size < _; omega)).trans f0
  replace t0 := (hb1.cell (by show w.heap.size + 1 < _; omega)).trans t0
  replace t3 := (hb1.cell (by show w.heap.size + 1 < _; omega)).trans t3
  have HB1 : Hid (Below w.heap.size w w1) := HBW.out.trans (hb1.mono HBW.out.size)
  clear hb1 hkd5
  go_wp2_with fail
  go_loopw [3, 10, 58] (fun v nv i wr => ∃ (j s : Nat) (va2 : Option Addr) (vc2 : Nat) (an : Option Addr) (cn : Nat), j ≤ m ∧ i = .int .i64 (j : Int) ∧ v = .slice va2 s vc2 ∧ nv = .slice an j cn ∧ Hid (KSt w0 w1 X (.slice vv n vvc) l L n j s (.slice va2 s vc2) (.slice an j cn) wr)) (fun _ _ i _ => m - (intOf i).toNat)
  case atStart =>
    refine ⟨0, n, vv, vvc, none, 0, Nat.zero_le _, rfl, rfl, rfl, by simp [Cl.sizes], ⟨R, ?_⟩, World.ownsRow_nil _ _ _ _, ⟨rfl, rfl, rfl, Nat.le_refl _, fun _ _ _ => rfl⟩, fun g hg => .inl hg, fun _ => rfl⟩
    have := (HT.out.below HB1.out).more (Y := fun q => X q ∨ (Value.slice none 0 0).ownBlock = some q) (fun g hg => by rcases hg with h | h; exact .inl h; simp [Value.ownBlock] at h)
    simpa [Cl.emits] using this
  case round =>
    obtain ⟨j, s, va2, vc2, an, cn, hj, rfl, rfl, rfl, HK⟩ := hrel
    obtain ⟨hs, ⟨R2, hTX⟩, hrow, hgr, hon, hj0⟩ := HK.out
    have hold0 := HT.out.old
    have hsle := sizes_le l j
    have s22 : s + 1 ≤ 2 ^ 22 := by omega
    have zr := hgr.size
    have zw1 := HB1.out.size
    have hBw : Below w0.heap.size w0 wr := (HW.out.trans (HB1.out.mono zW)).grown hgr (by omega) (fun b hb => (hold0 b hb).1)
    have hrin := row_in hrow
    have hX' : ∀ q, (X q ∨ (Value.slice an j cn).ownBlock = some q) → q < wr.heap.size := fun q hq => by
      rcases hq with h | h
      · have := HX.out q h; omega
      · exact (hrin q h).2
    have HTX : Hid (TBldX wr w0.heap.size (fun q => X q ∨ (Value.slice an j cn).ownBlock = some q) (.slice va2 s vc2) s (TL (L ++ Cl.emits (l.take j) n)) R2) := hTX
    have HX' : Hid (∀ q, (X q ∨ (Value.slice an j cn).ownBlock = some q) → q < wr.heap.size) := hX'
    have HROW : Hid (wr.ownsRow w1.heap.size 3 1 (.slice an j cn) j (kidL (numK l n) j)) := hrow
    have HGR : Hid (w1.grownBy wr (Value.slice vv n vvc).ownBlock ∧ Onward w1 (.slice vv n vvc) (.slice va2 s vc2)) := ⟨hgr, hon⟩
    have n0 : some w.heap.size ≠ (Value.slice vv n vvc).ownBlock := fun e => by have := hold0 _ e.symm; omega
    have n1 : some (w.heap.size + 1) ≠ (Value.slice vv n vvc).ownBlock := fun e => by have := hold0 _ e.symm; omega
    replace f0 := (hgr.cell_far ⟨w.heap.size, 0, none⟩ (by show w.heap.size < _; omega) n0).trans f0
    replace t0 := (hgr.cell_far ⟨w.heap.size + 1, 0, none⟩ (by show w.heap.size + 1 < _; omega) n1).trans t0
    by_cases hlt : j < m
    · have hjl : j < l.length := by have := HN.out.2.1; omega
      rcases HKK.out with h0 | ⟨b', off', rfl, hb', hat⟩
      · omega
      have d0 := (hBw.cell hb').trans (hat j hlt)
      have hjm : j < (F k).m := by have := HN.out.2.2.2; omega
      obtain ⟨k0, k1⟩ := HA.out.1 k hk j hjm
      obtain ⟨p, hp⟩ : ∃ p : Nat, (F k).K j = (p : Int) := ⟨((F k).K j).toNat, by omega⟩
      have hpk : p < k := by omega
      rw [hp] at d0
      obtain ⟨cl, hcl⟩ : ∃ cl, cl = tellC turn (clF F (p + 1) p) := ⟨_, rfl⟩
      have hc : l[j]? = some cl := by
        have hr : (List.range m)[j]? = some j := by rw [List.getElem?_range hlt]
        rw [HN.out.2.2.1, List.getElem?_map, kidsC, List.getElem?_map, hr, hcl]
        simp only [Option.map_some, hp, Int.toNat_natCast]
        rw [clF_same HA.out.1 HA.out.2.1 p (by omega) k (p + 1) hpk (by omega)]
      have hst := sizes_take l j cl hc
      have hsl2 := sizes_le l (j + 1)
      have hcp := Cl.size_one cl
      obtain ⟨cs, hcs⟩ : ∃ cs, cs = cl.size := ⟨_, rfl⟩
      have hll : s = (L ++ Cl.emits (l.take j) n).length := by rw [List.length_append, Cl.emits_len, ← HN.out.1]; exact hs
      have HEM : Hid (Calls Tryz.prog 40 #[.agg #[.slice (some ⟨b, off, none⟩) t c], .int .i64 p, .bool turn, .slice va2 s vc2] wr fun e w' => ∃ v' R', e = .returned v' ∧ TBldX w' w0.heap.size (fun q => X q ∨ (Value.slice an j cn).ownBlock = some q) v' (s + cs) (TL (L ++ Cl.emits (l.take (j + 1)) n)) R' ∧ wr.grownBy w' (Value.slice va2 s vc2).ownBlock ∧ Onward wr (.slice va2 s vc2) v') := by
        have h1 := HIH.out p hpk turn cl wr (fun q => X q ∨ (Value.slice an j cn).ownBlock = some q) (.slice va2 s vc2) (L ++ Cl.emits (l.take j) n) s R2 hcl hll hBw hTX hX' (by omega)
        show Calls _ _ _ _ _
        rw [emits_take l n j cl hc, ← List.append_assoc, hcs, ← hs]
        exact h1
      have HNU : Hid (kidL (numK l n) (j + 1) = kidL (numK l n) j ++ [.int .i64 ((s : Int) + cs - 1)]) := by
        show _ = _
        have e1 : numK l n j = (s : Int) + cs - 1 := by
          unfold numK
          rw [nums_at l n j cl hc]
          omega
        rw [← e1]
        rfl
      have HS2 : Hid (s + cs = n + Cl.sizes (l.take (j + 1))) := by show _ = _; omega
      have cs22 : s + cs + 1 ≤ 2 ^ 22 := by omega
      have cs0 : 1 ≤ cs := by omega
      have j0 : (0 : Int) ≤ (j : Int) := by omega
      have j1 : (j : Int) < (m : Int) := by omega
      have hbr : b' < wr.heap.size := by have := hBw.size; omega
      have n2 : some w.heap.size ≠ (Value.slice va2 s vc2).ownBlock := fun e => by
        rcases hon _ e.symm with h | h
        · exact n0 h.symm
        · omega
      have zf : w.heap.size < wr.heap.size := by omega
      clear hs hat hp k0 k1 hc hcl hst hsl2 hcp hcs hll hTX hrow hgr hon hj0 hX' hBw hrin HK hsle hold0
      go_wp2_with fail
      refine HEM.out.mono ?_
      rintro e w2 ⟨v2, R3, rfl, hT2, hg2, ho2⟩
      obtain ⟨va3, vc3, rfl⟩ := hT2.bld.form
      have z2 := hg2.size
      have HT2 : Hid (TBldX w2 w0.heap.size (fun q => X q ∨ (Value.slice an j cn).ownBlock = some q) (.slice va3 (s + cs) vc3) (s + cs) (TL (L ++ Cl.emits (l.take (j + 1)) n)) R3) := hT2
      have HG2 : Hid (wr.grownBy w2 (Value.slice va2 s vc2).ownBlock ∧ Onward wr (.slice va2 s vc2) (.slice va3 (s + cs) vc3)) := ⟨hg2, ho2⟩
      have HRW : Hid (w2.ownsRow w1.heap.size 3 1 (.slice an j cn) j (kidL (numK l n) j)) := row_far HROW.out hg2 (fun g hg e => HTX.out.away g hg (.inr e))
      clear hT2 hg2 ho2 f0 t0 t3 d0
      go_wp2_with (first | (at_builtin; refine wpList_append_lies _ rfl _ _ 49 rfl w1.heap.size 3 iI _ 1 8 Tryz.underlying49 HII.out.1 HII.out.2.1 HII.out.2.2.1 HII.out.2.2.2 rfl (by decide) _ _ _ rfl (HRW.out.alloc _) ⟨w2.heap.size, 0, none⟩ 1 1 [.int .i64 ((s : Int) + cs - 1)] rfl rfl (one_news _ _ _) ?c2 (by decide) ?c3 ?c4 ?c5 (w2.heap.size + 1) ?c6 ?_))
      case c2 => intro u hu; simp at hu; subst hu; rfl
      case c3 => unfold maxLen; omega
      case c4 => omega
      case c5 => simp; omega
      case c6 => simp
      intro g cap w3 hown3 hg3 hat3 hlt3
      have hrin := row_in HRW.out
      have hon2 : Onward w1 (.slice vv n vvc) (.slice va3 (s + cs) vc3) := fun q hq => by
        rcases HG2.out.2 q hq with h | h
        · exact HGR.out.2 q h
        · exact .inr (by omega)
      have hgr2 : w1.grownBy w2 (Value.slice vv n vvc).ownBlock := grown_chain HGR.out.1 HGR.out.2 HG2.out.1
      have hal : ∀ o, Below w2.heap.size w2 (w2.alloc o) := fun o => (Below.refl _ _).alloc (Nat.le_refl _) o
      have HK3 : Hid (KSt w0 w1 X (.slice vv n vvc) l L n (j + 1) (s + cs) (.slice va3 (s + cs) vc3) (.slice (some ⟨g, 0, none⟩) (j + 1) cap) w3) := by
        refine ⟨HS2.out, ⟨R3, ?_⟩, by rw [HNU.out]; exact hown3, grown_chain hgr2 (fun q hq => .inr (hrin q hq).1) (grown_after (hal _) hg3), hon2, fun h => by omega⟩
        have t1 := (HT2.out.below (hal (.cells #[.int .i64 ((s : Int) + cs - 1)] 3))).more (Y := fun q => X q ∨ (Value.slice an j cn).ownBlock = some q ∨ q = g) (fun q hq => by
          rcases hq with h | h | h
          · exact .inl (.inl h)
          · exact .inl (.inr h)
          · subst h
            rcases hat3 with h | h
            · exact .inl (.inr h)
            · exact .inr (by simp; omega))
        have t2 := t1.far hg3 (fun q hq => .inr (.inl hq))
        exact t2.more (fun q hq => by
          rcases hq with h | h
          · exact .inl (.inl h)
          · have : q = g := by simp [Value.ownBlock] at h; exact h.symm
            exact .inl (.inr (.inr this)))
      clear hown3 hg3 hat3 hlt3 hrin hon2 hgr2 hal HT2 HG2 HRW HNU HS2 HEM HTX HROW HGR HX'
      go_wp2
      go_roundw
      case rel => exact ⟨j + 1, s + cs, va3, vc3, _, cap, by omega, by go_num, rfl, rfl, HK3⟩
      case measure => simp [intOf]; omega
    · obtain rfl : j = m := by omega
      have hst : s = n + Cl.sizes l := by rw [hs, ← HN.out.2.1, List.take_length]
      have HST : Hid (s = n + Cl.sizes l) := hst
      have hj30 : j ≤ 2 ^ 30 := by omega
      obtain ⟨an', cn', gk, ek, hck, hgk, hok⟩ := own_kidB hrow hj30
      injection ek with e1 _ e3
      subst e1 e3
      obtain ⟨kk, hkk⟩ : ∃ kk, kk = tellK turn kd := ⟨_, rfl⟩
      obtain ⟨lo, hl⟩ : ∃ lo, lo = if j = 0 then wr.heap.size else gk := ⟨_, rfl⟩
      obtain ⟨hh, hhl⟩ : ∃ hh, hh = if j = 0 then wr.heap.size else gk + 1 := ⟨_, rfl⟩
      have HL : Hid (w0.heap.size ≤ lo ∧ hh ≤ wr.heap.size ∧ (wr.heap.size ≤ lo ∨ (hh = lo + 1 ∧ (X lo ∨ (Value.slice an j cn).ownBlock = some lo))) ∧ ∀ q, X q → (X q ∨ (Value.slice an j cn).ownBlock = some q) ∧ (q < lo ∨ hh ≤ q)) := by
        by_cases e : j = 0
        · rw [if_pos e] at hl hhl
          subst hl hhl
          exact ⟨by omega, Nat.le_refl _, .inl (Nat.le_refl _), fun q hq => ⟨.inl hq, .inl (hX' q (.inl hq))⟩⟩
        · rw [if_neg e] at hl hhl
          subst hl hhl
          have h1 := hgk e
          have h2 := hX' _ (.inr h1.2)
          exact ⟨by omega, by omega, .inr ⟨rfl, .inr h1.2⟩, fun q hq => ⟨.inl hq, by have := HX.out q hq; omega⟩⟩
      have HTO : Hid (TermOwn wr lo hh ⟨kk, ⟨#[]⟩, none, 0, 0, an, j, cn⟩ (aboveT kk j (numK l n))) := ⟨rfl, rfl, Nat.zero_le _, hck, gk + 1, gk, fun h => absurd rfl h, fun h => by
        have e : j ≠ 0 := h
        rw [if_neg e] at hl hhl
        omega, fun h => absurd rfl h, ⟨none, 0, 0, rfl, Nat.zero_le _, .inl rfl⟩, hok⟩
      have HRW : Hid (wr.ownsRow w0.heap.size 90 4 (.slice va2 s vc2) s (termL R2 s)) := hTX.row
      have HTN := tc_news wr ⟨kk, ⟨#[]⟩, none, 0, 0, an, j, cn⟩ 90
      have HFN : Hid ((fun i => if i = s then aboveT kk j (numK l n) else TL (L ++ Cl.emits (l.take j) n) i) = TL (L ++ C.emit n)) := by
        have e1 : l.take j = l := by rw [← HN.out.2.1, List.take_length]
        have e2 : s = (L ++ Cl.emits l n).length := by rw [List.length_append, Cl.emits_len, ← HN.out.1]; exact hst
        have e3 : aboveT kk j (numK l n) = overT (tellK turn kd) (Cl.nums l n) := by
          unfold overT
          rw [Cl.nums_len, HN.out.2.1, hkk]
          rfl
        show _ = _
        rw [e1, e3, HCE.out.2, ← List.append_assoc, e2]
        exact TL_snoc _ _
      have HKT : Hid (kk = tellK turn kd) := hkk
      clear hs hst hTX hrow hgr hon hj0 hX' hBw hrin HK hsle hold0 hgk hok hck hl hhl hkk
      obtain ⟨kb0, kb1⟩ := kb
      cases turn
      · obtain rfl : kk = kd := by have := HKT.out; simpa [tellK] using this
        go_wp2_with (first | (at_builtin; refine wpList_append_lies _ rfl _ _ 32 rfl w0.heap.size 90 iT _ 4 72 Tryz.underlying32 HIT.out.1 HIT.out.2.1 HIT.out.2.2.1 HIT.out.2.2.2 rfl (by decide) _ _ _ rfl (HRW.out.alloc _) ⟨wr.heap.size, 0, none⟩ 1 1 (tcC ⟨kk, ⟨#[]⟩, none, 0, 0, an, j, cn⟩) rfl rfl HTN (tc_ones _) (by decide) ?c3 ?c4 ?c5 (wr.heap.size + 1) ?c6 ?_))
        case c3 => unfold maxLen; omega
        case c4 => omega
        case c5 => omega
        intro g cap w3 hown3 hg3 hat3 hlt3
        have hal : ∀ o, Below wr.heap.size wr (wr.alloc o) := fun o => (Below.refl _ _).alloc (Nat.le_refl _) o
        have HT3 : Hid (∃ R', TBldX w3 w0.heap.size X (.slice (some ⟨g, 0, none⟩) (s + 1) cap) (s + 1) (TL (L ++ C.emit n)) R') := by
          show ∃ R', _
          rw [← HFN.out]
          exact ⟨_, TBldX.next (lo := lo) (hi := hh) (u := .slice (some ⟨g, 0, none⟩) (s + 1) cap) HTX.out HL.out.1 (hal _) (HTO.out.below (hal _)) (by have := HL.out.2.1; simp; omega) HL.out.2.2.1 HL.out.2.2.2 HX'.out hg3 (by simp; rcases hat3 with h | h; exact .inl h; exact .inr (by omega)) rfl hown3⟩
        have HB3 : Hid (w.grownBy w3 (Value.slice vv n vvc).ownBlock ∧ Onward w (.slice vv n vvc) (.slice (some ⟨g, 0, none⟩) (s + 1) cap)) := by
          refine ⟨grown_after HB1.out (grown_chain HGR.out.1 HGR.out.2 (grown_after (hal _) hg3)), fun q hq => ?_⟩
          have hq' : q = g := by simp [Value.ownBlock] at hq; exact hq.symm
          subst hq'
          rcases hat3 with h | h
          · rcases HGR.out.2 _ h with h | h
            · exact .inl h
            · exact .inr (by omega)
          · exact .inr (by omega)
        clear hown3 hg3 hat3 hal HTN HRW HTO
        go_wp2
        go_ret
        obtain ⟨R', hR'⟩ := HT3.out
        refine ⟨_, R', rfl, ?_, HB3.out.1, HB3.out.2⟩
        rw [HCE.out.1, ← Nat.add_assoc, ← HST.out]
        exact hR'
      · obtain rfl : kk = 13 - kd := by have := HKT.out; simpa [tellK] using this
        go_wp2_with (first | (at_builtin; refine wpList_append_lies _ rfl _ _ 32 rfl w0.heap.size 90 iT _ 4 72 Tryz.underlying32 HIT.out.1 HIT.out.2.1 HIT.out.2.2.1 HIT.out.2.2.2 rfl (by decide) _ _ _ rfl (HRW.out.alloc _) ⟨wr.heap.size, 0, none⟩ 1 1 (tcC ⟨13 - kd, ⟨#[]⟩, none, 0, 0, an, j, cn⟩) rfl rfl HTN (tc_ones _) (by decide) ?d3 ?d4 ?d5 (wr.heap.size + 1) ?d6 ?_))
        case d3 => unfold maxLen; omega
        case d4 => omega
        case d5 => omega
        intro g cap w3 hown3 hg3 hat3 hlt3
        have hal : ∀ o, Below wr.heap.size wr (wr.alloc o) := fun o => (Below.refl _ _).alloc (Nat.le_refl _) o
        have HT3 : Hid (∃ R', TBldX w3 w0.heap.size X (.slice (some ⟨g, 0, none⟩) (s + 1) cap) (s + 1) (TL (L ++ C.emit n)) R') := by
          show ∃ R', _
          rw [← HFN.out]
          exact ⟨_, TBldX.next (lo := lo) (hi := hh) (u := .slice (some ⟨g, 0, none⟩) (s + 1) cap) HTX.out HL.out.1 (hal _) (HTO.out.below (hal _)) (by have := HL.out.2.1; simp; omega) HL.out.2.2.1 HL.out.2.2.2 HX'.out hg3 (by simp; rcases hat3 with h | h; exact .inl h; exact .inr (by omega)) rfl hown3⟩
        have HB3 : Hid (w.grownBy w3 (Value.slice vv n vvc).ownBlock ∧ Onward w (.slice vv n vvc) (.slice (some ⟨g, 0, none⟩) (s + 1) cap)) := by
          refine ⟨grown_after HB1.out (grown_chain HGR.out.1 HGR.out.2 (grown_after (hal _) hg3)), fun q hq => ?_⟩
          have hq' : q = g := by simp [Value.ownBlock] at hq; exact hq.symm
          subst hq'
          rcases hat3 with h | h
          · rcases HGR.out.2 _ h with h | h
            · exact .inl h
            · exact .inr (by omega)
          · exact .inr (by omega)
        clear hown3 hg3 hat3 hal HTN HRW HTO
        go_wp2
        go_ret
        obtain ⟨R', hR'⟩ := HT3.out
        refine ⟨_, R', rfl, ?_, HB3.out.1, HB3.out.2⟩
        rw [HCE.out.1, ← Nat.add_assoc, ← HST.out]
        exact hR'

end Go.Proofs.YtjohocnfcnjciaaGreatDoor
namespace Go.Proofs.YtjohocnfcnjciaaGreatDoor
open Go.RowKit
set_option linter.unusedVariables false

theorem own_oneK (w : World) (x : Int) (K : Nat → Int) (h : K 0 = x) (T : TypeId) : OwnK (w.alloc (.cells #[.int .i64 x] T)) w.heap.size (.slice (some ⟨w.heap.size, 0, none⟩) 1 1) 1 K := by
  refine ⟨_, 1, rfl, by decide, .inr ⟨rfl, by simp, fun i hi => ⟨?_, World.frozen?_alloc_new _ _ _ _⟩⟩⟩
  obtain rfl : i = 0 := by omega
  simp [World.cell?_alloc_new, h]

set_option maxRecDepth 100000 in
set_option maxHeartbeats 4000000 in
theorem l5Plain_leaf (w0 : World) (a : Option Addr) (c t : Nat) (F : Nat → Tm) (hF : FArg w0 a t F) (ht : t ≤ 2 ^ 20) (k : Nat) (hk : k < t) (hL : LeafOK (F k)) : SpSaid w0 a c t F k := by
  intro turn C w X v L n R hC hn hw hT hX hz
  obtain ⟨b, off, va, vc, ka, kc, rfl, hb, a0, a1, a2, a3, hv, hkk⟩ := hF.at hk
  have zW := hw.size
  obtain ⟨hm, hn80⟩ := leaf_small hL
  have hk15 := hL.2
  obtain ⟨x, hx⟩ : ∃ x, x = F k := ⟨_, rfl⟩
  have hCe : C = if turn then .neg (.leaf x) else .leaf x := by
    rw [hC, clF, if_neg (show ¬ (F k).kind = 6 by omega), if_neg (show ¬ (F k).kind = 7 by omega), if_neg (show ¬ (F k).kind = 8 by omega), hx]
    simp [Cl.plain, Cl.turn]
  replace a0 := (hw.cell hb).trans a0
  replace a1 := (hw.cell hb).trans a1
  replace a2 := (hw.cell hb).trans a2
  replace a3 := (hw.cell hb).trans a3
  rw [← hx] at a0 a1 a2 a3 hm hn80 hk15 hv
  rw [hm] at a3
  have HV : Hid (ArgIs w va x.n x.N) := hv.below hw
  obtain ⟨vv, vvc, rfl⟩ := hT.bld.form
  have HT : Hid (TBldX w w0.heap.size X (.slice vv n vvc) n (TL L) R) := hT
  have HX : Hid (∀ q, X q → q < w.heap.size) := hX
  have HN : Hid (n = L.length) := hn
  have HCE : Hid (C = if turn then .neg (.leaf x) else .leaf x) := hCe
  have hn22 : n + 1 ≤ 2 ^ 22 := by have := Cl.size_one C; omega
  have HZ : Hid (n + C.size ≤ 2 ^ 22) := hz
  obtain ⟨kd, p, m, N, m', K⟩ := x
  dsimp only at a0 a1 a2 a3 hm hn80 hk15 HV
  obtain ⟨kb0, kb1⟩ := hk15
  have k8 : (kd == 8) = false := by have : ¬ kd = 8 := by omega
                                    simpa using this
  have k8' : ¬ kd = 8 := by omega
  have i0 : (0 : Int) ≤ (k : Int) := by omega
  have i1 : (k : Int) < (t : Int) := by omega
  have hbw : b < w.heap.size := by omega
  have hold := hT.old
  have n1 : some (w.heap.size + 1) ≠ (Value.slice vv n vvc).ownBlock := fun e => by have := hold _ e.symm; omega
  obtain ⟨iT, hi, hz0, hz1, hz2'⟩ := info_parts infoTerm
  have HIT : Hid (Tryz.prog.info? 90 = some iT ∧ iT.zero = some (.agg #[.int .i64 0, .string ⟨#[]⟩, .slice none 0 0, .slice none 0 0]) ∧ iT.size = 4 ∧ iT.bytes = 72) := ⟨hi, hz0, hz1, hz2'⟩
  clear hi hz0 hz1 hz2' hF hT hX hw hC hn hv hkk hz hCe hL hx hm hold
  go_enter Tryz.func40, Tryz.ntmps40
  go_wp2_with fail
  obtain ⟨W, hW⟩ : ∃ W, W = (w.alloc (.cells #[.slice (some ⟨b, off, none⟩) t c] 34)).alloc (.cells #[.int .i64 kd, .string p, .slice va m vc, .slice ka 0 kc] 90) := ⟨_, rfl⟩
  have bW : Below w.heap.size w W := by rw [hW]; exact ((Below.refl _ _).alloc (Nat.le_refl _) _).alloc (by simp) _
  have zz : w.heap.size + 1 < W.heap.size := by rw [hW]; simp
  have t0 : W.cell? ⟨w.heap.size + 1, 0, none⟩ = some (.int .i64 kd) := by rw [hW]; simp [go_sem]
  have t1 : W.cell? ⟨w.heap.size + 1, 1, none⟩ = some (.string p) := by rw [hW]; simp [go_sem]
  have t2 : W.cell? ⟨w.heap.size + 1, 2, none⟩ = some (.slice va m vc) := by rw [hW]; simp [go_sem]
  have t3 : W.cell? ⟨w.heap.size + 1, 3, none⟩ = some (.slice ka 0 kc) := by rw [hW]; simp [go_sem]
  have fz : ∀ o, W.frozen? ⟨w.heap.size + 1, o, none⟩ = false := fun o => by rw [hW]; simp [go_sem]
  rw [← hW]
  have HBW : Hid (Below w.heap.size w W) := bW
  clear hW bW a0 a1 a2 a3
  refine (l5LeafP_any kd _).mono ?_
  rintro e w1 ⟨rfl, hb1⟩
  have hkd5 : (decide (1 ≤ kd) && decide (kd ≤ 5)) = true := by simp [kb0, kb1]
  rw [hkd5]
  have z1 := hb1.size
  have hlt1 : w.heap.size + 1 < W.heap.size := zz
  replace t0 := (hb1.cell hlt1).trans t0
  replace t1 := (hb1.cell hlt1).trans t1
  replace t2 := (hb1.cell hlt1).trans t2
  replace t3 := (hb1.cell hlt1).trans t3
  have f2 : w1.frozen? ⟨w.heap.size + 1, 2, none⟩ = false := (hb1.frozen hlt1).trans (fz 2)
  have f3 : w1.frozen? ⟨w.heap.size + 1, 3, none⟩ = false := (hb1.frozen hlt1).trans (fz 3)
  have HB1 : Hid (Below w.heap.size w w1) := HBW.out.trans (hb1.mono HBW.out.size)
  have HV1 : Hid (ArgIs w1 va m N) := HV.out.below HB1.out
  clear hb1 hkd5 fz
  go_wp2_with fail
  refine (l5OwnValue_any va vc m N w1 HV1.out (by omega)).mono ?_
  rintro e w2 ⟨av, cv, gv, rfl, hcv, hgv, hov, hb2⟩
  have z2 := hb2.size
  have hlt2 : w.heap.size + 1 < w1.heap.size := by omega
  replace t0 := (hb2.cell hlt2).trans t0
  replace t1 := (hb2.cell hlt2).trans t1
  replace t2 := (hb2.cell hlt2).trans t2
  replace t3 := (hb2.cell hlt2).trans t3
  replace f2 := (hb2.frozen hlt2).trans f2
  replace f3 := (hb2.frozen hlt2).trans f3
  have HB2 : Hid (Below w.heap.size w w2) := HB1.out.trans (hb2.mono HB1.out.size)
  have HSB : Hid (Below w.heap.size w ((w2.setCell ⟨w.heap.size + 1, 2, none⟩ (.slice av m cv)).setCell ⟨w.heap.size + 1, 3, none⟩ (.slice none 0 0))) := (HB2.out.setCell (by simp) _).setCell (by simp) _
  have HTO : Hid (TermOwn ((w2.setCell ⟨w.heap.size + 1, 2, none⟩ (.slice av m cv)).setCell ⟨w.heap.size + 1, 3, none⟩ (.slice none 0 0)) w.heap.size w2.heap.size ⟨kd, p, av, m, cv, none, 0, 0⟩ ⟨kd, p, m, N, 0, fun _ => 0⟩) := by
    refine ⟨rfl, rfl, hcv, Nat.le_refl _, gv, gv + 1, fun h => by have := hgv h; omega, fun h => absurd rfl h, fun _ h => absurd rfl h, ?_, none, 0, rfl, Nat.zero_le _, .inl rfl⟩
    exact hov.butN ((BelowBut.setCell _ _ _).trans (BelowBut.setCell _ _ _)) (fun h => by have := hgv h; omega)
  have HRW : Hid (((w2.setCell ⟨w.heap.size + 1, 2, none⟩ (.slice av m cv)).setCell ⟨w.heap.size + 1, 3, none⟩ (.slice none 0 0)).ownsRow w0.heap.size 90 4 (.slice vv n vvc) n (termL R n)) := row_keep HT.out.row HSB.out
  have HTN := tc_news ((w2.setCell ⟨w.heap.size + 1, 2, none⟩ (.slice av m cv)).setCell ⟨w.heap.size + 1, 3, none⟩ (.slice none 0 0)) ⟨kd, p, av, m, cv, none, 0, 0⟩ 90
  have hsz : ((w2.setCell ⟨w.heap.size + 1, 2, none⟩ (.slice av m cv)).setCell ⟨w.heap.size + 1, 3, none⟩ (.slice none 0 0)).heap.size = w2.heap.size := by simp [World.setCell]
  clear hov hgv hb2
  go_wp2_with (first | (at_builtin; go_loud (refine wpList_append_lies _ rfl _ _ 32 rfl w0.heap.size 90 iT _ 4 72 Tryz.underlying32 HIT.out.1 HIT.out.2.1 HIT.out.2.2.1 HIT.out.2.2.2 rfl (by decide) _ _ _ rfl (HRW.out.alloc _) ⟨w2.heap.size, 0, none⟩ 1 1 (tcC ⟨kd, p, av, m, cv, none, 0, 0⟩) rfl rfl (by have := HTN; rw [hsz] at this; exact this) (tc_ones _) (by decide) ?c3 ?c4 ?c5 (w2.heap.size + 1) ?c6 ?_)))
  case c3 => unfold maxLen; omega
  case c4 => omega
  case c5 => simp [World.setCell]; omega
  case c6 => simp [World.setCell]
  intro g cap w3 hown3 hg3 hat3 hlt3
  have hbo : Below w.heap.size w (((w2.setCell ⟨w.heap.size + 1, 2, none⟩ (.slice av m cv)).setCell ⟨w.heap.size + 1, 3, none⟩ (.slice none 0 0)).alloc (.cells #[.int .i64 kd, .string p, .slice av m cv, .slice none 0 0] 90)) := HSB.out.trans ((Below.refl _ _).alloc HSB.out.size _)
  have HT3 : Hid (∃ R', TBldX w3 w0.heap.size X (.slice (some ⟨g, 0, none⟩) (n + 1) cap) (n + 1) (TL (L ++ [⟨kd, p, m, N, 0, fun _ => 0⟩])) R') := by
    show ∃ R', _
    rw [← TL_snoc, ← HN.out]
    exact ⟨_, TBldX.next (lo := w.heap.size) (hi := w2.heap.size) (u := .slice (some ⟨g, 0, none⟩) (n + 1) cap) HT.out zW hbo (HTO.out.below ((Below.refl _ _).alloc (Nat.le_refl _) _)) (by rw [World.size_alloc, hsz]; omega) (.inl (Nat.le_refl _)) (fun q hq => ⟨hq, .inl (HX.out q hq)⟩) HX.out hg3 (by rw [World.size_alloc, hsz]; rcases hat3 with h | h; exact .inl h; exact .inr (by omega)) rfl hown3⟩
  have HB3 : Hid (w.grownBy w3 (Value.slice vv n vvc).ownBlock ∧ Onward w (.slice vv n vvc) (.slice (some ⟨g, 0, none⟩) (n + 1) cap)) := by
    refine ⟨grown_after hbo hg3, fun q hq => ?_⟩
    have hq' : q = g := by simp [Value.ownBlock] at hq; exact hq.symm
    subst hq'
    have := HB2.out.size
    rcases hat3 with h | h
    · exact .inl h
    · exact .inr (by omega)
  clear hown3 hg3 hat3 hbo HTN HRW HTO HSB hsz t0 t1 t2 t3 f2 f3
  have z3 := HB3.out.1.size
  cases turn
  · go_wp2
    go_ret
    obtain ⟨R', hR'⟩ := HT3.out
    refine ⟨_, R', rfl, ?_, HB3.out.1, HB3.out.2⟩
    have e : C = .leaf ⟨kd, p, m, N, m', K⟩ := by simpa using HCE.out
    rw [e, Cl.size, Cl.emit]
    exact hR'
  · obtain ⟨R3, hR3⟩ := HT3.out
    have HR3 : Hid (TBldX w3 w0.heap.size X (.slice (some ⟨g, 0, none⟩) (n + 1) cap) (n + 1) (TL (L ++ [⟨kd, p, m, N, 0, fun _ => 0⟩])) R3) := hR3
    have hal : ∀ o, Below w3.heap.size w3 (w3.alloc o) := fun o => (Below.refl _ _).alloc (Nat.le_refl _) o
    have HRW : Hid ((w3.alloc (.cells #[.int .i64 (n : Int)] 3)).ownsRow w0.heap.size 90 4 (.slice (some ⟨g, 0, none⟩) (n + 1) cap) (n + 1) (termL R3 (n + 1))) := row_keep hR3.row (hal _)
    have HTN := tc_news (w3.alloc (.cells #[.int .i64 (n : Int)] 3)) ⟨8, ⟨#[]⟩, none, 0, 0, some ⟨w3.heap.size, 0, none⟩, 1, 1⟩ 90
    have HTO : Hid (TermOwn (w3.alloc (.cells #[.int .i64 (n : Int)] 3)) w3.heap.size (w3.heap.size + 1) ⟨8, ⟨#[]⟩, none, 0, 0, some ⟨w3.heap.size, 0, none⟩, 1, 1⟩ (overT 8 [n + 1 - 1])) :=
      ⟨rfl, rfl, Nat.zero_le _, Nat.le_refl _, w3.heap.size + 1, w3.heap.size, fun h => absurd rfl h, fun _ => ⟨Nat.le_refl _, by omega⟩, fun h => absurd rfl h, ⟨none, 0, 0, rfl, Nat.zero_le _, .inl rfl⟩, own_oneK w3 (n : Int) _ (by simp [overT, aboveT]) 3⟩
    rw [World.size_alloc] at HTN
    clear hR3
    go_wp2_with (first | (at_builtin; go_loud (refine wpList_append_lies _ rfl _ _ 32 rfl w0.heap.size 90 iT _ 4 72 Tryz.underlying32 HIT.out.1 HIT.out.2.1 HIT.out.2.2.1 HIT.out.2.2.2 rfl (by decide) _ _ _ rfl (HRW.out.alloc _) ⟨w3.heap.size + 1, 0, none⟩ 1 1 (tcC ⟨8, ⟨#[]⟩, none, 0, 0, some ⟨w3.heap.size, 0, none⟩, 1, 1⟩) rfl rfl HTN (tc_ones _) (by decide) ?d3 ?d4 ?d5 (w3.heap.size + 1 + 1) ?d6 ?_)))
    case d3 => unfold maxLen; omega
    case d4 => omega
    case d5 => omega
    intro g4 cap4 w4 hown4 hg4 hat4 hlt4
    have hb4 : Below w3.heap.size w3 ((w3.alloc (.cells #[.int .i64 (n : Int)] 3)).alloc (.cells #[.int .i64 8, .string ⟨#[]⟩, .slice none 0 0, .slice (some ⟨w3.heap.size, 0, none⟩) 1 1] 90)) := (hal _).alloc (by simp) _
    have HT4 : Hid (∃ R', TBldX w4 w0.heap.size X (.slice (some ⟨g4, 0, none⟩) (n + 1 + 1) cap4) (n + 1 + 1) (TL (L ++ [⟨kd, p, m, N, 0, fun _ => 0⟩] ++ [overT 8 [n + 1 - 1]])) R') := by
      have hln : n + 1 = (L ++ [(⟨kd, p, m, N, 0, fun _ => 0⟩ : Tm)]).length := by rw [List.length_append, ← HN.out]; rfl
      show ∃ R', _
      rw [← TL_snoc, ← hln]
      exact ⟨_, TBldX.next (lo := w3.heap.size) (hi := w3.heap.size + 1) (u := .slice (some ⟨g4, 0, none⟩) (n + 1 + 1) cap4) HR3.out (by omega) hb4 (HTO.out.below ((Below.refl _ _).alloc (Nat.le_refl _) _)) (by simp) (.inl (Nat.le_refl _)) (fun q hq => ⟨hq, .inl (by have := HX.out q hq; omega)⟩) (fun q hq => by have := HX.out q hq; omega) hg4 (by simp; rcases hat4 with h | h; exact .inl h; exact .inr (by omega)) rfl hown4⟩
    have HB4 : Hid (w.grownBy w4 (Value.slice vv n vvc).ownBlock ∧ Onward w (.slice vv n vvc) (.slice (some ⟨g4, 0, none⟩) (n + 1 + 1) cap4)) := by
      refine ⟨grown_chain HB3.out.1 HB3.out.2 (grown_after hb4 hg4), fun q hq => ?_⟩
      have hq' : q = g4 := by simp [Value.ownBlock] at hq; exact hq.symm
      subst hq'
      rcases hat4 with h | h
      · exact HB3.out.2 _ h
      · exact .inr (by omega)
    clear hown4 hg4 hat4 hb4 HTN HRW HTO hal
    go_wp2
    go_ret
    obtain ⟨R', hR'⟩ := HT4.out
    refine ⟨_, R', rfl, ?_, HB4.out.1, HB4.out.2⟩
    have e : C = .neg (.leaf ⟨kd, p, m, N, m', K⟩) := by simpa using HCE.out
    rw [e]
    simp only [Cl.size, Cl.emit]
    rw [← List.append_assoc]
    exact hR'

theorem l5Plain_any (w0 : World) (a : Option Addr) (c t : Nat) (F : Nat → Tm) (hF : FArg w0 a t F) (hg : GoodF F t) (hA : Ahead F t) : ∀ k, k < t → SpSaid w0 a c t F k := by
  have ht : t ≤ 2 ^ 20 := by have := hg.1; omega
  intro k
  induction k using Nat.strongRecOn with
  | ind k ih =>
    intro hk
    have ih' : ∀ p, p < k → SpSaid w0 a c t F p := fun p hp => ih p hp (by omega)
    by_cases h8 : (F k).kind = 8
    · exact l5Plain_not w0 a c t F hF hA ht k hk h8 ih'
    · by_cases h67 : (F k).kind = 6 ∨ (F k).kind = 7
      · exact l5Plain_kids w0 a c t F hF hA ht k hk h67 ih'
      · exact l5Plain_leaf w0 a c t F hF ht k hk (leaf_of hg hk (fun h => h67 (.inl h)) (fun h => h67 (.inr h)) h8)

end Go.Proofs.YtjohocnfcnjciaaGreatDoor
