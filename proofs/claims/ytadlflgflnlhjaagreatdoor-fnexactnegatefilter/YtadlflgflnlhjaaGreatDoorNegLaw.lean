/- A filter turned: the specification's own rows, and its NegateFilter. A filter turned: the specification's NegateFilter. FnExactNegateFilter answers true at every filter: NegateFilter answers as the specification, writes into nothing, and its answer is its own. -/
import Derived.Test.YtadlflgflnlhjaaGreatDoorFilN
import Derived.Test.YtadlflgflnlhjaaGreatDoorFilS
import Derived.Deep.RegionLaw
import Derived.Deep.RegionHeld3
import Derived.Test.YtadlflgflnlhjaaGreatDoorFilHd
import Derived.Test.YtadlflgflnlhjaaGreatDoorFilToA
namespace Go.Proofs.YtadlflgflnlhjaaGreatDoor
open Go.RowKit
set_option linter.unusedVariables false

theorem row_empty (W : World) (e : TypeId) (size : Nat) : (W.alloc (.cells #[] e)).ownsRow W.heap.size e size (.slice (some ⟨W.heap.size, 0, none⟩) 0 0) 0 [] :=
  ⟨by simp, .inr ⟨W.heap.size, 0, #[], rfl, Nat.le_refl _, World.alloc_heap_new W _, Nat.le_refl _, Nat.zero_le _, by simp, by simp⟩⟩

set_option maxRecDepth 100000 in
set_option maxHeartbeats 2000000 in
theorem l5OwnValue_any (a : Option Addr) (c n : Nat) (N : Nat → Nd) (w : World) (h : ArgIs w a n N) (hn : n ≤ 2 ^ 20) :
    Calls Tryz.prog 84 #[.agg #[.slice a n c]] w fun e w' => ∃ a' c' g, e = .returned (.agg #[.slice a' n c']) ∧ n ≤ c' ∧ (n ≠ 0 → w.heap.size ≤ g ∧ g < w'.heap.size) ∧ OwnAt w' g (.slice a' n c') n N ∧ Below w.heap.size w w' := by
  have H : Hid (ArgIs w a n N) := h
  clear h
  have HOE : Hid ((((w.alloc (.cells #[.slice a n c] 28)).alloc (.cells #[.slice none 0 0] 28)).alloc (.cells #[] 77)).ownsRow (w.heap.size + 1 + 1) 77 5 (.slice (some ⟨w.heap.size + 1 + 1, 0, none⟩) 0 0) 0 []) := by
    have h := row_empty ((w.alloc (.cells #[.slice a n c] 28)).alloc (.cells #[.slice none 0 0] 28)) 77 5
    show World.ownsRow _ _ _ _ _ _ _
    simpa using h
  have hal : ∀ o o' o'', Below w.heap.size w (((w.alloc o).alloc o').alloc o'') := fun o o' o'' => (((Below.refl _ _).alloc (Nat.le_refl _) o).alloc (by simp) o').alloc (by simp; omega) o''
  go_enter Tryz.func84, Tryz.ntmps84
  go_wp2_with (first | (at_builtin; refine wpList_append_nodes rfl _ _ rfl (w.heap.size + 1 + 1) (.slice (some ⟨w.heap.size + 1 + 1, 0, none⟩) 0 0) rfl HOE.out a n c N rfl (H.out.below (hal _ _ _)) (by omega) (by simp) ?_))
  intro v2 w2 hown2 hg2
  have n30 : n ≤ 2 ^ 30 := by omega
  obtain ⟨av, cv, gv, rfl, hcv, hgv, hov⟩ := own_nodeL hown2 n30
  have z2 := hg2.size
  simp at z2
  have r2 : w2.cell? ⟨w.heap.size + 1, 0, none⟩ = some (.slice none 0 0) := (hg2.cell_far _ (by simp) (by simp [Value.ownBlock])).trans (by simp [go_sem])
  have fr2 : w2.frozen? ⟨w.heap.size + 1, 0, none⟩ = false := (hg2.frozen_far _ (by simp) (by simp [Value.ownBlock])).trans (by simp [go_sem])
  have HB2 : Hid (Below w.heap.size w w2) := (hal _ _ _).grown hg2 (by simp; omega) (fun k hk => by simp [Value.ownBlock] at hk; omega)
  have HGV : Hid (n ≠ 0 → w.heap.size + 1 + 1 ≤ gv ∧ gv < w2.heap.size) := hgv
  have HOV : Hid (OwnAt w2 gv (.slice av n cv) n N) := hov
  have zz : w.heap.size + 1 < w2.heap.size := by omega
  clear hown2 hg2 hov hgv hal HOE
  go_wp2
  refine bodyPost_ret (v := .agg #[.slice av n cv]) (by simp [results, Tryz.results84, go_sem, r2]) rfl ⟨av, cv, gv, rfl, hcv, fun h => ⟨by have := HGV.out h; omega, by have := HGV.out h; simp [World.setCell]; omega⟩, ?_, HB2.out.setCell (by simp) _⟩
  exact HOV.out.butN (BelowBut.setCell _ _ _) (fun h => by have := HGV.out h; omega)

set_option maxRecDepth 100000 in
set_option maxHeartbeats 4000000 in
theorem l5Own_any (w : World) (a : Option Addr) (c t : Nat) (G : Nat → Tm) (by' : Nat) (hG : FArg w a t G) (hs : SmallF t G) (ht : t ≤ 2 ^ 10) (hK : ∀ i, i < t → ∀ j, j < (G i).m → 0 ≤ (G i).K j ∧ (G i).K j ≤ 2 ^ 20) (hby : by' ≤ 2 ^ 10) :
    Calls Tryz.prog 50 #[.slice a t c, .int .i64 (by' : Int)] w fun e w' => ∃ v', e = .returned v' ∧ TBld w' w.heap.size v' t (fun i => shiftT by' (G i)) ∧ Below w.heap.size w w' := by
  have HG : Hid (FArg w a t G) := hG
  have HS : Hid (SmallF t G) := hs
  have HK : Hid (∀ i, i < t → ∀ j, j < (G i).m → 0 ≤ (G i).K j ∧ (G i).K j ≤ 2 ^ 20) := hK
  clear hG hs hK
  obtain ⟨iI, hi, hz0, hz1, hz2⟩ := info_parts infoInt
  have HII : Hid (Tryz.prog.info? 3 = some iI ∧ iI.zero = some (.int .i64 0) ∧ iI.size = 1 ∧ iI.bytes = 8) := ⟨hi, hz0, hz1, hz2⟩
  clear hi hz0 hz1 hz2
  obtain ⟨iT, hi, hz0, hz1, hz2⟩ := info_parts infoTerm
  have HIT : Hid (Tryz.prog.info? 74 = some iT ∧ iT.zero = some (.agg #[.int .i64 0, .string ⟨#[]⟩, .slice none 0 0, .slice none 0 0]) ∧ iT.size = 4 ∧ iT.bytes = 72) := ⟨hi, hz0, hz1, hz2⟩
  clear hi hz0 hz1 hz2
  go_enter Tryz.func50, Tryz.ntmps50
  go_wp2_with fail
  go_loopw [5, 13] (fun v i wr => ∃ (j : Nat) (va : Option Addr) (vc : Nat), j ≤ t ∧ i = .int .i64 (j : Int) ∧ v = .slice va j vc ∧ Below w.heap.size w wr ∧ Hid (TBld wr w.heap.size (.slice va j vc) j (fun i => shiftT by' (G i)))) (fun _ i _ => t - (intOf i).toNat)
  case atStart => exact ⟨0, none, 0, Nat.zero_le _, rfl, rfl, Below.refl _ _, TBld.nil _ _ _⟩
  case round =>
    obtain ⟨j, va, vc, hj, rfl, rfl, hnx, HT⟩ := hrel
    rename World => x0
    by_cases hlt : j < t
    · obtain ⟨b, off, va', vc', ka, kc, rfl, hb, a0, a1, a2, a3, hv, hkk⟩ := HG.out.at hlt
      replace a0 := (hnx.cell hb).trans a0
      replace a1 := (hnx.cell hb).trans a1
      replace a2 := (hnx.cell hb).trans a2
      replace a3 := (hnx.cell hb).trans a3
      have i0 : (0 : Int) ≤ (j : Int) := by omega
      have i1 : (j : Int) < (t : Int) := by omega
      have zB := hnx.size
      have hbw : b < x0.heap.size := by omega
      have HV : Hid (ArgIs w va' (G j).n (G j).N ∧ ArgI w ka (G j).m (G j).K) := ⟨hv, hkk⟩
      have HST : Hid (SmallT (G j)) := HS.out.2 j hlt
      have HKB : Hid (∀ i, i < (G j).m → 0 ≤ (G j).K i ∧ (G j).K i ≤ 2 ^ 20) := HK.out j hlt
      have HNX : Hid (Below w.heap.size w x0) := hnx
      have HCF : Hid (∀ q, q < j + 1 → (if q = j then shiftT by' (G j) else shiftT by' (G q)) = shiftT by' (G q)) := fun q hq => by
        by_cases e : q = j
        · subst e; simp
        · simp [e]
      obtain ⟨y, hy⟩ : ∃ y, y = G j := ⟨_, rfl⟩
      rw [← hy] at a0 a1 a2 a3 HV HST HKB HCF
      clear hv hkk hnx hy
      obtain ⟨kd, p, n, N, m, K⟩ := y
      dsimp only at a0 a1 a2 a3 HV HST HKB HCF
      have m20 : m ≤ 2 ^ 20 := HST.out.2.2
      have n20 : n ≤ 2 ^ 20 := HST.out.2.1.1
      go_wp2_with fail
      obtain ⟨X1, hX1⟩ : ∃ X1, X1 = x0.alloc (.cells #[.int .i64 kd, .string p, .slice va' n vc', .slice ka m kc] 74) := ⟨_, rfl⟩
      have zX : x0.heap.size < X1.heap.size := by rw [hX1]; simp
      have bX : Below x0.heap.size x0 X1 := by rw [hX1]; exact (Below.refl _ _).alloc (Nat.le_refl _) _
      have t0 : X1.cell? ⟨x0.heap.size, 0, none⟩ = some (.int .i64 kd) := by rw [hX1]; simp [World.cell?_alloc_new]
      have t1 : X1.cell? ⟨x0.heap.size, 1, none⟩ = some (.string p) := by rw [hX1]; simp [World.cell?_alloc_new]
      have t2 : X1.cell? ⟨x0.heap.size, 2, none⟩ = some (.slice va' n vc') := by rw [hX1]; simp [World.cell?_alloc_new]
      have t3 : X1.cell? ⟨x0.heap.size, 3, none⟩ = some (.slice ka m kc) := by rw [hX1]; simp [World.cell?_alloc_new]
      have tf : ∀ o, X1.frozen? ⟨x0.heap.size, o, none⟩ = false := fun o => by rw [hX1]; exact World.frozen?_alloc_new _ _ _ _
      rw [← hX1]
      clear hX1 a0 a1 a2 a3
      refine (l5OwnValue_any va' vc' n N X1 (HV.out.1.below (HNX.out.trans (bX.mono zB))) n20).mono ?_
      rintro e w2 ⟨av, cv, gv, rfl, hcv, hgv, hov, hb2⟩
      have z2 := hb2.size
      have u0 : w2.cell? ⟨x0.heap.size, 0, none⟩ = some (.int .i64 kd) := (hb2.cell zX).trans t0
      have u1 : w2.cell? ⟨x0.heap.size, 1, none⟩ = some (.string p) := (hb2.cell zX).trans t1
      have u2 : w2.cell? ⟨x0.heap.size, 2, none⟩ = some (.slice va' n vc') := (hb2.cell zX).trans t2
      have u3 : w2.cell? ⟨x0.heap.size, 3, none⟩ = some (.slice ka m kc) := (hb2.cell zX).trans t3
      have uf2 : w2.frozen? ⟨x0.heap.size, 2, none⟩ = false := (hb2.frozen zX).trans (tf 2)
      have uf3 : w2.frozen? ⟨x0.heap.size, 3, none⟩ = false := (hb2.frozen zX).trans (tf 3)
      obtain ⟨X2, hX2⟩ : ∃ X2, X2 = w2.setCell ⟨x0.heap.size, 2, none⟩ (.slice av n cv) := ⟨_, rfl⟩
      have zX2 : X2.heap.size = w2.heap.size := by rw [hX2]; simp [World.setCell]
      have s0 : X2.cell? ⟨x0.heap.size, 0, none⟩ = some (.int .i64 kd) := by rw [hX2, cell_set (by rw [u2]; rfl), if_neg (by omega)]; exact u0
      have s1 : X2.cell? ⟨x0.heap.size, 1, none⟩ = some (.string p) := by rw [hX2, cell_set (by rw [u2]; rfl), if_neg (by omega)]; exact u1
      have s2 : X2.cell? ⟨x0.heap.size, 2, none⟩ = some (.slice av n cv) := by rw [hX2, cell_set (by rw [u2]; rfl), if_pos rfl]
      have s3 : X2.cell? ⟨x0.heap.size, 3, none⟩ = some (.slice ka m kc) := by rw [hX2, cell_set (by rw [u2]; rfl), if_neg (by omega)]; exact u3
      have sf3 : X2.frozen? ⟨x0.heap.size, 3, none⟩ = false := by rw [hX2, World.frozen?_setCell]; exact uf3
      have bX2 : Below x0.heap.size x0 X2 := by rw [hX2]; exact (bX.trans (hb2.mono (by omega))).setCell (Nat.le_refl _) _
      have HOV : Hid (OwnAt X2 gv (.slice av n cv) n N) := by
        show OwnAt _ _ _ _ _
        rw [hX2]
        exact hov.butN (BelowBut.setCell _ _ _) (fun h => by have := hgv h; omega)
      have HGV : Hid (n ≠ 0 → x0.heap.size < gv ∧ gv < X2.heap.size) := fun h => by have := hgv h; omega
      have HX2 : Hid (X2 = w2.setCell ⟨x0.heap.size, 2, none⟩ (.slice av n cv)) := hX2
      have zX3 : x0.heap.size < X2.heap.size := by omega
      clear hX2 hov hgv hb2 t0 t1 t2 t3 tf u0 u1 uf3 zX2
      go_wp2_with fail
      rw [← HX2.out]
      clear u2 u3 uf2 HX2
      go_loopw [8, 24] (fun kv i wr => ∃ (q : Nat) (ak : Option Addr) (ck : Nat), q ≤ m ∧ i = .int .i64 (q : Int) ∧ kv = .slice ak q ck ∧ Below X2.heap.size X2 wr ∧ Hid (wr.ownsRow X2.heap.size 3 1 (.slice ak q ck) q (kidL (fun i => K i + by') q))) (fun _ i _ => m - (intOf i).toNat)
      case atStart => exact ⟨0, none, 0, Nat.zero_le _, rfl, rfl, Below.refl _ _, World.ownsRow_nil _ _ _ _⟩
      case round =>
        obtain ⟨q, ak, ck, hq, rfl, rfl, hnx2, HR⟩ := hrel
        have z3 := hnx2.size
        by_cases hqm : q < m
        · rcases HV.out.2 with h0 | ⟨b', off', rfl, hb', hat⟩
          · omega
          have hB2 : Below w.heap.size w wr := HNX.out.trans ((bX2.mono zB).trans (hnx2.mono (by omega)))
          have d0 := (hB2.cell hb').trans (hat q hqm)
          obtain ⟨k0, k1⟩ := HKB.out q hqm
          have HKS : Hid (kidL (fun i => K i + by') (q + 1) = kidL (fun i => K i + by') q ++ [.int .i64 (K q + by')]) := rfl
          have HN2 : Hid (Below X2.heap.size X2 wr) := hnx2
          have j0 : (0 : Int) ≤ (q : Int) := by omega
          have j1 : (q : Int) < (m : Int) := by omega
          obtain ⟨x, hx⟩ : ∃ x, x = K q := ⟨_, rfl⟩
          rw [← hx] at d0 k0 k1 HKS
          clear hat hB2 hx hnx2
          go_wp2_with (first | (at_builtin; refine wpList_append_own _ rfl _ _ 72 rfl X2.heap.size 3 iI (.int .i64 0) 1 8 Tryz.underlying72 HII.out.1 HII.out.2.1 HII.out.2.2.1 HII.out.2.2.2 rfl (by decide) _ _ _ rfl (HR.out.alloc _) ⟨wr.heap.size, 0, none⟩ 1 1 [.int .i64 (x + by')] rfl rfl ?c1 ?c2 ?c3 ?c4 ?c5 ?_))
          case c1 => exact one_news _ _ _
          case c2 => intro u hu; simp at hu; subst hu; rfl
          case c3 => unfold maxLen; omega
          case c4 => omega
          case c5 => simp; omega
          intro v' w2 hown' hgrow _
          have HB2 : Hid (Below X2.heap.size X2 w2) := grow_below HR.out _ HN2.out z3 hgrow
          have HR2 : Hid (w2.ownsRow X2.heap.size 3 1 v' (q + 1) (kidL (fun i => K i + by') (q + 1))) := by
            show World.ownsRow _ _ _ _ _ _ _
            rw [HKS.out]
            exact hown'
          obtain ⟨ak', ck', rfl⟩ : ∃ a c, v' = .slice a (q + 1) c := by
            rcases row_open HR2.out with ⟨_, h⟩ | ⟨g, cap, e, _⟩
            · omega
            · exact ⟨_, _, e⟩
          clear hown' hgrow HR HN2 d0
          go_wp2
          go_roundw
          case rel => exact ⟨q + 1, ak', ck', by omega, by go_num, rfl, HB2.out, HR2⟩
          case measure => simp [intOf]; omega
        · obtain rfl : q = m := by omega
          have r0 : wr.cell? ⟨x0.heap.size, 0, none⟩ = some (.int .i64 kd) := (hnx2.cell zX3).trans s0
          have r1 : wr.cell? ⟨x0.heap.size, 1, none⟩ = some (.string p) := (hnx2.cell zX3).trans s1
          have r2 : wr.cell? ⟨x0.heap.size, 2, none⟩ = some (.slice av n cv) := (hnx2.cell zX3).trans s2
          have r3 : wr.cell? ⟨x0.heap.size, 3, none⟩ = some (.slice ka q kc) := (hnx2.cell zX3).trans s3
          have rf3 : wr.frozen? ⟨x0.heap.size, 3, none⟩ = false := (hnx2.frozen zX3).trans sf3
          have q30 : q ≤ 2 ^ 30 := by omega
          obtain ⟨ak', ck', gk, ek, hck, hgk, hok⟩ := own_kidL HR.out q30
          injection ek with e1 e2 e3
          subst e1 e3
          obtain ⟨X3, hX3⟩ : ∃ X3, X3 = wr.setCell ⟨x0.heap.size, 3, none⟩ (.slice ak q ck) := ⟨_, rfl⟩
          have zX4 : X3.heap.size = wr.heap.size := by rw [hX3]; simp [World.setCell]
          have v0 : X3.cell? ⟨x0.heap.size, 0, none⟩ = some (.int .i64 kd) := by rw [hX3, cell_set (by rw [r3]; rfl), if_neg (by omega)]; exact r0
          have v1 : X3.cell? ⟨x0.heap.size, 1, none⟩ = some (.string p) := by rw [hX3, cell_set (by rw [r3]; rfl), if_neg (by omega)]; exact r1
          have v2 : X3.cell? ⟨x0.heap.size, 2, none⟩ = some (.slice av n cv) := by rw [hX3, cell_set (by rw [r3]; rfl), if_neg (by omega)]; exact r2
          have v3 : X3.cell? ⟨x0.heap.size, 3, none⟩ = some (.slice ak q ck) := by rw [hX3, cell_set (by rw [r3]; rfl), if_pos rfl]
          have bX3 : Below x0.heap.size x0 X3 := by rw [hX3]; exact (bX2.trans (hnx2.mono (by omega))).setCell (Nat.le_refl _) _
          have HTO : Hid (TermOwn X3 x0.heap.size X3.heap.size ⟨kd, p, av, n, cv, ak, q, ck⟩ (shiftT by' ⟨kd, p, n, N, q, K⟩)) := by
            refine ⟨rfl, rfl, hcv, hck, gv, gk, fun h => ⟨by have := HGV.out h; omega, by have := HGV.out h; omega⟩, fun h => ⟨by have := hgk h; omega, by have := hgk h; omega⟩, fun h h' => by have := HGV.out h; have := hgk h'; omega, ?_, ?_⟩
            · rw [hX3]; exact (HOV.out.below hnx2).butN (BelowBut.setCell _ _ _) (fun h => by have := HGV.out h; omega)
            · rw [hX3]; exact hok.but (BelowBut.setCell _ _ _) (fun h => by have := hgk h; omega)
          obtain ⟨R, hR⟩ := HT.out.rows
          have HR' : Hid (TBldR x0 w.heap.size (.slice va j vc) j (fun i => shiftT by' (G i)) R) := hR
          have HRW : Hid (X3.ownsRow w.heap.size 74 4 (.slice va j vc) j (termL R j)) := row_keep hR.row bX3
          have HTN : ∀ j u, (tcC ⟨kd, p, av, n, cv, ak, q, ck⟩)[j]? = some u → ((wr.setCell ⟨x0.heap.size, 3, none⟩ (.slice ak q ck)).alloc (.cells #[.int .i64 kd, .string p, .slice av n cv, .slice ak q ck] 74)).cell? ((⟨wr.heap.size, 0, none⟩ : Addr).add j) = some u := by
            have h := tc_news X3 ⟨kd, p, av, n, cv, ak, q, ck⟩ 74
            rw [zX4, hX3] at h
            exact h
          have HRX : Hid ((wr.setCell ⟨x0.heap.size, 3, none⟩ (.slice ak q ck)).ownsRow w.heap.size 74 4 (.slice va j vc) j (termL R j)) := by
            rw [← hX3]
            exact HRW
          have HX3 : Hid (X3 = wr.setCell ⟨x0.heap.size, 3, none⟩ (.slice ak q ck)) := hX3
          have HBX3 : Hid (Below x0.heap.size x0 X3) := bX3
          have HZ4 : Hid (X3.heap.size = wr.heap.size) := zX4
          clear hR hok hgk hX3 s0 s1 s2 s3 sf3 HR HOV HGV hnx2 bX3 v0 v1 v2 v3 zX4
          go_wp2_with (first | (at_builtin; refine wpList_append_lies _ rfl _ _ 40 rfl w.heap.size 74 iT _ 4 72 Tryz.underlying40 HIT.out.1 HIT.out.2.1 HIT.out.2.2.1 HIT.out.2.2.2 rfl (by decide) _ _ _ rfl (HRX.out.alloc _) ⟨wr.heap.size, 0, none⟩ 1 1 (tcC ⟨kd, p, av, n, cv, ak, q, ck⟩) rfl rfl HTN (tc_ones _) (by decide) ?c3 ?c4 ?c5 (wr.heap.size + 1) ?c6 ?_))
          case c3 => unfold maxLen; omega
          case c4 => omega
          case c5 => omega
          intro g cap w3 hown3 hg3 hat3 hlt3
          rw [← HX3.out] at hg3
          have hal2 : Below x0.heap.size x0 (X3.alloc (.cells #[.int .i64 kd, .string p, .slice av n cv, .slice ak q ck] 74)) := HBX3.out.trans ((Below.refl _ _).alloc HBX3.out.size _)
          have hrow := HRW.out
          have z4 := HZ4.out
          have HT3 : Hid (TBld w3 w.heap.size (.slice (some ⟨g, 0, none⟩) (j + 1) cap) (j + 1) (fun i => shiftT by' (G i))) := (TBld.next (u := .slice (some ⟨g, 0, none⟩) (j + 1) cap) HR'.out zB hal2 ((HTO.out.below ((Below.refl _ _).alloc (Nat.le_refl _) _)).wide (Nat.le_refl _) (by simp)) hg3 (by simp; rcases hat3 with h | h; exact .inl h; exact .inr (by omega)) rfl hown3).same HCF.out
          have HB3 : Hid (Below w.heap.size w w3) := (HNX.out.trans (hal2.mono zB)).grown hg3 (by simp; have := HBX3.out.size; omega) (fun b hb => (hrow.lt b hb).1)
          clear hown3 hg3 hat3 hal2 hrow HTN HRW HRX HR' HTO HBX3 HX3 HZ4 z4 r0 r1 r2 r3 rf3
          go_wp2
          go_roundw
          case rel => exact ⟨j + 1, _, cap, by omega, by go_num, rfl, HB3.out, HT3⟩
          case measure => simp [intOf]; omega
    · obtain rfl : j = t := by omega
      go_wp2
      go_ret
      exact ⟨_, rfl, HT.out, hnx⟩

end Go.Proofs.YtadlflgflnlhjaaGreatDoor
namespace Go.Proofs.YtadlflgflnlhjaaGreatDoor
open Go.RowKit
set_option linter.unusedVariables false

set_option maxRecDepth 100000 in
set_option maxHeartbeats 4000000 in
theorem specNeg_any (a : Option Addr) (c t : Nat) (F : Nat → Tm) (w : World) (h : FArg w a t F) (hs : SmallF t F) :
    Calls Tryz.prog 20 #[.agg #[.slice a t c]] w (NegIs F t w) := by
  have H : Hid (FArg w a t F) := h
  have HS : Hid (SmallF t F) := hs
  have t20 := hs.1
  clear h hs
  go_enter Tryz.func20, Tryz.ntmps20
  go_wp2_with fail
  obtain ⟨W, hW⟩ : ∃ W, W = (w.alloc (.cells #[.slice a t c] 42)).alloc (.cells #[.slice none 0 0] 42) := ⟨_, rfl⟩
  have bW : Below w.heap.size w W := by rw [hW]; exact ((Below.refl _ _).alloc (Nat.le_refl _) _).alloc (by simp) _
  have zW : w.heap.size + 1 < W.heap.size := by rw [hW]; simp
  have zW' : w.heap.size < W.heap.size := by omega
  have f0 : W.cell? ⟨w.heap.size, 0, none⟩ = some (.slice a t c) := by rw [hW]; simp [go_sem]
  have r0 : W.cell? ⟨w.heap.size + 1, 0, none⟩ = some (.slice none 0 0) := by rw [hW]; simp [go_sem]
  have fr0 : W.frozen? ⟨w.heap.size + 1, 0, none⟩ = false := by rw [hW]; simp [go_sem]
  have HFW : Hid (FArg W a t F) := H.out.below bW
  have HBW : Hid (Below w.heap.size w W) := bW
  rw [← hW]
  clear hW
  refine (specGoodF_any a c t F W HFW.out HS.out).mono ?_
  rintro e w1 ⟨q, rfl, hq, hb1⟩
  have z1 := hb1.size
  have f1 : w1.cell? ⟨w.heap.size, 0, none⟩ = some (.slice a t c) := (hb1.cell zW').trans f0
  have r1 : w1.cell? ⟨w.heap.size + 1, 0, none⟩ = some (.slice none 0 0) := (hb1.cell zW).trans r0
  have fr1 : w1.frozen? ⟨w.heap.size + 1, 0, none⟩ = false := (hb1.frozen zW).trans fr0
  have HB1 : Hid (Below W.heap.size W w1) := hb1
  have HBw1 : Hid (Below w.heap.size w w1) := HBW.out.trans (hb1.mono HBW.out.size)
  clear hb1 bW f0 r0 fr0
  cases q with
  | false =>
    have HN : Hid (¬ (GoodF F t ∧ t < 20)) := fun h => by simpa using hq.2 h.1
    clear hq
    go_wp2
    exact bodyPost_ret (v := .tuple #[.agg #[.slice none 0 0], .bool false]) (by simp [results, Tryz.results20, go_sem, r1]) rfl (NegIs.no HN.out (HBw1.out.setCell (by simp) _))
  | true =>
    have hg := hq.1 rfl
    have ht20 := hg.1
    have HG : Hid (GoodF F t) := hg
    have HKS : Hid (∀ i, i < t → ∀ j, j < (F i).m → 0 ≤ (F i).K j ∧ (F i).K j ≤ 2 ^ 20) := kids_small hg
    clear hq hg
    by_cases h20 : t = 20
    · have HN : Hid (¬ (GoodF F t ∧ t < 20)) := fun h => by have := h.2; omega
      have e20 : ((t : Int) == 20) = true := by simp; omega
      go_wp2
      exact bodyPost_ret (v := .tuple #[.agg #[.slice none 0 0], .bool false]) (by simp [results, Tryz.results20, go_sem, r1]) rfl (NegIs.no HN.out (HBw1.out.setCell (by simp) _))
    · have e20 : ((t : Int) == 20) = false := by simp; omega
      go_wp2_with fail
      refine (show Calls Tryz.prog 50 #[.slice a t c, .int .i64 0] w1 _ from l5Own_any w1 a c t F 0 (HFW.out.below HB1.out) HS.out (by omega) HKS.out (by omega)).mono ?_
      rintro e w2 ⟨v2, rfl, hT2, hb2⟩
      obtain ⟨a2, c2, rfl⟩ := hT2.form
      have hT2' : TBld w2 w1.heap.size (.slice a2 t c2) t F := hT2.same fun i hi => shiftT_zero _
      have z2 := hb2.size
      have zw1 : w.heap.size + 1 < w1.heap.size := by omega
      have r2 : w2.cell? ⟨w.heap.size + 1, 0, none⟩ = some (.slice none 0 0) := (hb2.cell zw1).trans r1
      have fr2 : w2.frozen? ⟨w.heap.size + 1, 0, none⟩ = false := (hb2.frozen zw1).trans fr1
      have HB2 : Hid (Below w1.heap.size w1 w2) := hb2
      obtain ⟨iT, hi, hz0, hz1, hz2⟩ := info_parts infoTerm
      have HIT : Hid (Tryz.prog.info? 74 = some iT ∧ iT.zero = some (.agg #[.int .i64 0, .string ⟨#[]⟩, .slice none 0 0, .slice none 0 0]) ∧ iT.size = 4 ∧ iT.bytes = 72) := ⟨hi, hz0, hz1, hz2⟩
      obtain ⟨X2, hX2⟩ : ∃ X2, X2 = w2.alloc (.cells #[.int .i64 ((t : Int) - 1)] 3) := ⟨_, rfl⟩
      have bX2 : Below w2.heap.size w2 X2 := by rw [hX2]; exact (Below.refl _ _).alloc (Nat.le_refl _) _
      have zX2 : X2.heap.size = w2.heap.size + 1 := by rw [hX2]; simp
      obtain ⟨R, hR⟩ := hT2'.rows
      have HR : Hid (TBldR w2 w1.heap.size (.slice a2 t c2) t F R) := hR
      have HRW : Hid (X2.ownsRow w1.heap.size 74 4 (.slice a2 t c2) t (termL R t)) := row_keep hR.row bX2
      have HRX : Hid ((w2.alloc (.cells #[.int .i64 ((t : Int) - 1)] 3)).ownsRow w1.heap.size 74 4 (.slice a2 t c2) t (termL R t)) := by
        rw [← hX2]
        exact HRW
      have HTN : ∀ j u, (tcC ⟨8, ⟨#[]⟩, none, 0, 0, some ⟨w2.heap.size, 0, none⟩, 1, 1⟩)[j]? = some u → ((w2.alloc (.cells #[.int .i64 ((t : Int) - 1)] 3)).alloc (.cells #[.int .i64 8, .string ⟨#[]⟩, .slice none 0 0, .slice (some ⟨w2.heap.size, 0, none⟩) 1 1] 74)).cell? ((⟨w2.heap.size + 1, 0, none⟩ : Addr).add j) = some u := by
        have h := tc_news X2 ⟨8, ⟨#[]⟩, none, 0, 0, some ⟨w2.heap.size, 0, none⟩, 1, 1⟩ 74
        rw [zX2, hX2] at h
        exact h
      have HTO : Hid (TermOwn X2 w2.heap.size X2.heap.size ⟨8, ⟨#[]⟩, none, 0, 0, some ⟨w2.heap.size, 0, none⟩, 1, 1⟩ (aboveT 8 1 (fun _ => (t : Int) - 1))) := ⟨rfl, rfl, Nat.zero_le _, Nat.le_refl _, 0, w2.heap.size, fun h => absurd rfl h, fun _ => ⟨Nat.le_refl _, by omega⟩, fun h => absurd rfl h, ⟨none, 0, 0, rfl, Nat.zero_le _, .inl rfl⟩, by rw [hX2]; exact own_one w2 _ _⟩
      have HX2 : Hid (X2 = w2.alloc (.cells #[.int .i64 ((t : Int) - 1)] 3)) := hX2
      have HBX2 : Hid (Below w2.heap.size w2 X2) := bX2
      have HZ2 : Hid (X2.heap.size = w2.heap.size + 1) := zX2
      clear hi hz0 hz1 hz2 hR hT2 hT2' hb2 hX2 bX2 zX2 f1 r1 fr1
      go_wp2_with (first | (at_builtin; refine wpList_append_lies _ rfl _ _ 40 rfl w1.heap.size 74 iT _ 4 72 Tryz.underlying40 HIT.out.1 HIT.out.2.1 HIT.out.2.2.1 HIT.out.2.2.2 rfl (by decide) _ _ _ rfl (HRX.out.alloc _) ⟨w2.heap.size + 1, 0, none⟩ 1 1 (tcC ⟨8, ⟨#[]⟩, none, 0, 0, some ⟨w2.heap.size, 0, none⟩, 1, 1⟩) rfl rfl HTN (tc_ones _) (by decide) ?c3 ?c4 ?c5 (w2.heap.size + 1 + 1) ?c6 ?_))
      case c3 => unfold maxLen; omega
      case c4 => omega
      case c5 => simp; omega
      case c6 => simp
      intro g cap w3 hown3 hg3 hat3 hlt3
      rw [← HX2.out] at hg3
      have hal2 : Below w2.heap.size w2 (X2.alloc (.cells #[.int .i64 8, .string ⟨#[]⟩, .slice none 0 0, .slice (some ⟨w2.heap.size, 0, none⟩) 1 1] 74)) := HBX2.out.trans ((Below.refl _ _).alloc HBX2.out.size _)
      have hrow := HRW.out
      have zz2 := HZ2.out
      have HT3 : Hid (TBld w3 w1.heap.size (.slice (some ⟨g, 0, none⟩) (t + 1) cap) (t + 1) (negF F t)) := TBld.next (u := .slice (some ⟨g, 0, none⟩) (t + 1) cap) HR.out z2 hal2 ((HTO.out.below ((Below.refl _ _).alloc (Nat.le_refl _) _)).wide (Nat.le_refl _) (by simp)) hg3 (by simp; rcases hat3 with h | h; exact .inl h; exact .inr (by omega)) rfl hown3
      have hb13 : Below w1.heap.size w1 w3 := (HB2.out.trans (hal2.mono z2)).grown hg3 (by simp; omega) (fun b hb => (hrow.lt b hb).1)
      have r3 : w3.cell? ⟨w.heap.size + 1, 0, none⟩ = some (.slice none 0 0) := (hb13.cell zw1).trans ((HB2.out.cell zw1).symm.trans r2)
      have fr3 : w3.frozen? ⟨w.heap.size + 1, 0, none⟩ = false := (hb13.frozen zw1).trans ((HB2.out.frozen zw1).symm.trans fr2)
      have HB3 : Hid (Below w.heap.size w w3) := HBw1.out.trans (hb13.mono HBw1.out.size)
      clear hown3 hg3 hat3 hal2 hrow HTN HRW HRX HR HTO HBX2 HX2 HZ2 zz2 r2 fr2 hb13
      go_wp2
      exact bodyPost_ret (v := .tuple #[.agg #[.slice (some ⟨g, 0, none⟩) (t + 1) cap], .bool true]) (by simp [results, Tryz.results20, go_sem, r3]) rfl (NegIs.yes HG.out (by omega) HBw1.out.size HT3.out rfl zw1 (HB3.out.setCell (by simp) _))

end Go.Proofs.YtadlflgflnlhjaaGreatDoor
namespace Go.Proofs.YtadlflgflnlhjaaGreatDoor
open Go.RowKit
set_option linter.unusedVariables false

/-- A filter whose blocks lie elsewhere stays as it was. -/
theorem FOwn.away {S : Nat → Prop} {w w' : World} {b : Nat} {a : Option Addr} {t : Nat} {F : Nat → Tm} {P Q : Nat → Nat} (h : FOwn w b a t F P Q) (hk : Kept S w w') (lo hi : Nat) (h1 : t ≠ 0 → lo ≤ b ∧ b < hi) (h2 : ∀ i, i < t → lo ≤ P i ∧ Q i ≤ hi) (hs : ∀ x, S x → x < lo ∨ hi ≤ x) : FOwn w' b a t F P Q :=
  h.kept hk (fun h0 hS => by have := h1 h0; have := hs _ hS; omega) (fun i hi g hg1 hg2 hS => by have := h2 i hi; have := hs _ hS; omega)
theorem InF.in {b t : Nat} {P Q : Nat → Nat} {lo hi : Nat} (h1 : lo ≤ b ∧ b < hi) (h2 : ∀ i, i < t → lo ≤ P i ∧ Q i ≤ hi) {x : Nat} (h : InF b t P Q x) : lo ≤ x ∧ x < hi := by
  rcases h with rfl | ⟨i, hi, h3, h4⟩
  · exact h1
  · have := h2 i hi; omega
theorem totF_same {F G : Nat → Tm} : ∀ t, (∀ i, i < t → (F i).n = (G i).n ∧ (F i).m = (G i).m) → totF F t = totF G t := by
  intro t
  induction t with
  | zero => intro _; rfl
  | succ t ih => intro h; rw [totF, totF, ih (fun i hi => h i (by omega)), (h t (by omega)).1, (h t (by omega)).2]
theorem totF_neg (F : Nat → Tm) (t : Nat) : totF (negF F t) (t + 1) = totF F t + 1 := by
  rw [totF, totF_same (F := negF F t) (G := F) t (fun i hi => by simp [negF, show ¬ i = t by omega])]
  simp [negF, aboveT]

set_option maxRecDepth 100000 in
set_option maxHeartbeats 4000000 in
theorem negateFilter_law (a : Option Addr) (c n : Nat) (N : Nat → Tm) (w : World) (hn : n ≤ maxLen) (h : FArg w a n N) (hz : ∀ i, i < n → BigT (N i)) (htab : Tab w.heap.size w) (hml : ML w) :
    Calls Tryz.prog 5 #[.agg #[.slice a n c]] w fun e w' => e = .returned (.bool true) ∧ Below w.heap.size w w' := by
  have HZ : Hid (∀ i, i < n → BigT (N i)) := hz
  have HML : Hid (ML w) := hml
  have H : Hid (FArg w a n N) := h
  have HTB : Hid (Tab w.heap.size w) := htab
  clear hz h htab hml
  go_enter Tryz.func5, Tryz.ntmps5
  go_wp2_with fail
  have hbl0 : ∀ o, Below w.heap.size w (w.alloc o) := fun o => (Below.refl _ _).alloc (Nat.le_refl _) o
  refine (szFilter_less a c n N 1048576 (by decide) (by decide) _ hn (H.out.below (hbl0 _)) HZ.out).mono ?_
  rintro e w1 ⟨r, rfl, hr, hb1⟩
  have x1 : w1.cell? ⟨w.heap.size, 0, none⟩ = some (.slice a n c) := by rw [hb1.cell (by simp)]; simp [go_sem]
  have HB1 : Hid (Below w.heap.size w w1) := (hbl0 _).trans (hb1.mono (by simp))
  have z1 : w.heap.size < w1.heap.size := by have := hb1.size; simp at this; omega
  clear hb1 hbl0
  rcases hr with rfl | ⟨r0, rt, hsm⟩
  · go_wp2
    go_ret
    exact ⟨rfl, HB1.out⟩
  have HSM : Hid (SmallF n N) := hsm
  have n20 : n ≤ 2 ^ 20 := hsm.1
  have htn : totF N n ≤ 2 ^ 20 := by omega
  have HFT : Hid (∀ i, i < n → FitT (N i)) := fun i hi => (hsm.2 i hi).fit
  have HFG : Hid (∀ i, i < n + 1 → FitT (negF N n i)) := fun i hi => by
    by_cases e : i = n
    · subst e; simp [negF, aboveT, FitT]
    · have := (hsm.2 i (by omega)).fit
      simpa [negF, e] using this
  have r1 : ¬ r < 0 := by omega
  have HTN : Hid (totF (negF N n) (n + 1) = totF N n + 1) := totF_neg N n
  obtain ⟨G, hG⟩ : ∃ G, G = negF N n := ⟨_, rfl⟩
  rw [← hG] at HFG HTN
  have HGE : Hid (G = negF N n) := hG
  clear hsm rt hG
  go_wp2_with fail
  refine (toFilter_any a c n N _ HSM.out (H.out.below HB1.out)).mono ?_
  rintro e w2 ⟨a2, c2, rfl, ho2, hb2⟩
  have x2 : w2.cell? ⟨w.heap.size, 0, none⟩ = some (.slice a n c) := (hb2.cell z1).trans x1
  have HB2 : Hid (Below w.heap.size w w2) := HB1.out.trans (hb2.mono HB1.out.size)
  have z2 : w.heap.size < w2.heap.size := by have := hb2.size; omega
  have HO2 : Hid (FArg w2 a2 n N) := ho2.arg
  clear ho2 hb2
  go_wp2_with fail
  refine (specNeg_any a2 c2 n N _ HO2.out HSM.out).mono ?_
  rintro e w3 ⟨u, q, hq, a3, c3, b3, P3, Q3, rfl, hb3, hP3, hF3, hbl3⟩
  have HQ : Hid ((GoodF N n ∧ n < 20 ∧ u = n + 1 ∧ q = true) ∨ (¬ (GoodF N n ∧ n < 20) ∧ u = 0 ∧ q = false)) := hq
  have hu : u ≤ n + 1 := by rcases hq with h | h; omega; omega
  have x3 : w3.cell? ⟨w.heap.size, 0, none⟩ = some (.slice a n c) := (hbl3.cell z2).trans x2
  have HB3 : Hid (Below w.heap.size w w3) := HB2.out.trans (hbl3.mono HB2.out.size)
  have z3 : w.heap.size < w3.heap.size := by have := hbl3.size; omega
  have HU : Hid (totF G u ≤ 2 ^ 21 ∧ ∀ i, i < u → FitT (G i)) := by
    have h1 := totF_mono G hu
    have h2 := HTN.out
    exact ⟨by omega, fun i hi => HFG.out i (by omega)⟩
  have HK3 : Hid (FOwn w3 b3 a3 u G P3 Q3) := by rw [HGE.out]; exact hF3
  have HR3 : Hid ((u ≠ 0 → b3 < w3.heap.size) ∧ ∀ i, i < u → Q3 i ≤ w3.heap.size) := ⟨fun h => (hb3 h).2, fun i hi => (hF3.2.2.1 i hi).2⟩
  clear hbl3 hb3 hP3 hF3 HO2 hq
  go_wp2_with fail
  have al3 : ∀ o, Below w3.heap.size w3 (w3.alloc o) := fun o => (Below.refl _ _).alloc (Nat.le_refl _) o
  refine (toFilter_any a c n N _ HSM.out (H.out.below (HB3.out.trans ((al3 _).mono HB3.out.size)))).mono ?_
  rintro e w4 ⟨a4, c4, rfl, ho4, hb4⟩
  obtain ⟨_, b4, P4, Q4, hb4a, hb4b, hP4, hF4⟩ := ho4
  have z34 := hb4.size
  simp at z34 hb4a hP4
  have x4 : w4.cell? ⟨w.heap.size, 0, none⟩ = some (.slice a n c) := by rw [hb4.cell (by simp; omega)]; simp [World.cell?_alloc_past, z3, x3]
  have u4 : w4.cell? ⟨w3.heap.size, 0, none⟩ = some (.slice a3 u c3) := by rw [hb4.cell (by simp)]; simp [World.cell?_alloc_new]
  have hbb4 : Below w3.heap.size w3 w4 := (al3 _).trans (hb4.mono (by simp))
  have HB4 : Hid (Below w.heap.size w w4) := HB3.out.trans (hbb4.mono HB3.out.size)
  have z4 : w.heap.size < w4.heap.size := by omega
  have zu4 : w3.heap.size < w4.heap.size := by omega
  have HO4 : Hid (FOwn w4 b4 a4 n N P4 Q4) := hF4
  have HR4 : Hid ((w3.heap.size < b4 ∧ b4 < w4.heap.size) ∧ ∀ i, i < n → w3.heap.size < P4 i ∧ Q4 i ≤ w4.heap.size) := ⟨⟨by omega, hb4b⟩, fun i hi => ⟨by have := hP4 i hi; omega, (hF4.2.2.1 i hi).2⟩⟩
  have HK4 : Hid (FOwn w4 b3 a3 u G P3 Q3) := HK3.out.below hbb4
  clear hF4 hb4 HK3 hbb4 al3 hP4 hb4a
  go_wp2_with fail
  have hal : ∀ o, Below w4.heap.size w4 (w4.alloc o) := fun o => (Below.refl _ _).alloc (Nat.le_refl _) o
  refine (implNeg_any a4 c4 n N _ (HO4.out.below (hal _)).arg HSM.out (HTB.out.up (HB4.out.trans ((hal _).mono HB4.out.size))) (HML.out.below (HB4.out.trans ((hal _).mono HB4.out.size)))).mono ?_
  rintro e w5 ⟨u', g, hg, a5, c5, b5, P5, Q5, rfl, hb5, hP5, hF5, hbl5⟩
  obtain ⟨rfl, rfl⟩ : u' = u ∧ g = q := by
    rcases hg with ⟨h1, h2, rfl, rfl⟩ | ⟨h1, rfl, rfl⟩ <;> rcases HQ.out with ⟨h3, h4, rfl, rfl⟩ | ⟨h3, rfl, rfl⟩
    · exact ⟨rfl, rfl⟩
    · exact absurd ⟨h1, h2⟩ h3
    · exact absurd ⟨h3, h4⟩ h1
    · exact ⟨rfl, rfl⟩
  have z45 := hbl5.size
  simp at z45
  have x5 : w5.cell? ⟨w.heap.size, 0, none⟩ = some (.slice a n c) := by rw [hbl5.cell (by simp; omega)]; simp [World.cell?_alloc_past, z4, x4]
  have u5 : w5.cell? ⟨w3.heap.size, 0, none⟩ = some (.slice a3 u' c3) := by rw [hbl5.cell (by simp; omega)]; simp [World.cell?_alloc_past, zu4, u4]
  have y5 : w5.cell? ⟨w4.heap.size, 0, none⟩ = some (.slice a4 n c4) := by rw [hbl5.cell (by simp)]; simp [World.cell?_alloc_new]
  have hbb : Below w4.heap.size w4 w5 := (hal _).trans (hbl5.mono (by simp))
  have HB5 : Hid (Below w.heap.size w w5) := HB4.out.trans (hbb.mono HB4.out.size)
  have z5 : w4.heap.size < w5.heap.size := by omega
  have z5u : w3.heap.size < w5.heap.size := by omega
  have z5' : w.heap.size < w5.heap.size := by omega
  have HO5 : Hid (FOwn w5 b4 a4 n N P4 Q4) := HO4.out.below hbb
  have HK5 : Hid (FOwn w5 b3 a3 u' G P3 Q3) := HK4.out.below hbb
  have HG5 : Hid (FOwn w5 b5 a5 u' G P5 Q5) := by rw [HGE.out]; exact hF5
  have HR5 : Hid ((u' ≠ 0 → w4.heap.size < b5 ∧ b5 < w5.heap.size) ∧ ∀ i, i < u' → w4.heap.size < P5 i ∧ Q5 i ≤ w5.heap.size) := ⟨fun h => by have := hb5 h; simp at this; omega, fun i hi => ⟨by have := hP5 i hi; simp at this; omega, (hF5.2.2.1 i hi).2⟩⟩
  have u40 : u' ≤ 2 ^ 40 := by omega
  have u20 : u' ≤ 2 ^ 20 ∨ u' = 2 ^ 20 + 1 := by omega
  have u20' : u' ≤ 21 := by rcases HQ.out with h | h; omega; omega
  clear hbl5 hbb hal hg HO4 HK4 hb5 hP5 hF5 x4 u4
  go_wp2_with fail
  have al5 : ∀ o, Below w5.heap.size w5 (w5.alloc o) := fun o => (Below.refl _ _).alloc (Nat.le_refl _) o
  refine (eqFilter_same a5 a3 c5 c3 u' G _ u40 HU.out.2 (HG5.out.below (al5 _)).arg (HK5.out.below (al5 _)).arg).mono ?_
  rintro e w6 ⟨rfl, hb6⟩
  have B56 : Below w5.heap.size w5 w6 := (al5 _).trans (hb6.mono (by simp))
  have z56 := hb6.size
  simp at z56
  have x6 : w6.cell? ⟨w.heap.size, 0, none⟩ = some (.slice a n c) := (B56.cell (by show w.heap.size < _; omega)).trans x5
  have u6 : w6.cell? ⟨w3.heap.size, 0, none⟩ = some (.slice a3 u' c3) := (B56.cell (by show w3.heap.size < _; omega)).trans u5
  have y6 : w6.cell? ⟨w4.heap.size, 0, none⟩ = some (.slice a4 n c4) := (B56.cell z5).trans y5
  have v6 : w6.cell? ⟨w5.heap.size, 0, none⟩ = some (.slice a5 u' c5) := by rw [hb6.cell (by simp)]; simp [World.cell?_alloc_new]
  have z6 : w4.heap.size < w6.heap.size := by omega
  have z6u : w3.heap.size < w6.heap.size := by omega
  have z6v : w5.heap.size < w6.heap.size := by omega
  have z6' : w.heap.size < w6.heap.size := by omega
  have HB6 : Hid (Below w.heap.size w w6) := HB5.out.trans (B56.mono HB5.out.size)
  have HO6 : Hid (FOwn w6 b4 a4 n N P4 Q4) := HO5.out.below B56
  have HK6 : Hid (FOwn w6 b3 a3 u' G P3 Q3) := HK5.out.below B56
  have HG6 : Hid (FOwn w6 b5 a5 u' G P5 Q5) := HG5.out.below B56
  clear hb6 HO5 HK5 HG5 B56 al5 x5 u5 y5
  go_wp2_with fail
  go_region_held3 (fun w' => w'.cell? ⟨w.heap.size, 0, none⟩ = some (.slice a n c) ∧ w'.cell? ⟨w4.heap.size, 0, none⟩ = some (.slice a4 n c4)) (first | exact ⟨x6, y6⟩ | exact ⟨(hc8 _ _ (Nat.lt_of_lt_of_le z6' zz7)).trans ((hc7 _ _ z6').trans x6), (hc8 _ _ (Nat.lt_of_lt_of_le z6 zz7)).trans ((hc7 _ _ z6).trans y6)⟩ | exact ⟨(hc7 _ _ z6').trans x6, (hc7 _ _ z6).trans y6⟩)
    (first | (go_at_call 17; refine (toFilter_any a c n N _ HSM.out (H.out.below (HB6.out.drew))).mono ?_; rintro e w7 ⟨a7, c7, rfl, ho7, hb7⟩; obtain ⟨hc7, hf7⟩ := bcell hb7; have zz7 := hb7.size) | (go_at_call 19; refine (eqFilter_same a4 a7 c4 c7 n N _ (by omega) HFT.out (HO6.out.below ((Below.drew (Below.refl w6.heap.size w6)).trans (hb7.mono (Nat.le_refl w6.heap.size)))).arg ho7.arg).mono ?_; rintro e w8 ⟨rfl, hb8⟩; obtain ⟨hc8, hf8⟩ := bcell hb8))
  have B68 : Below w6.heap.size w6 w8 := ((Below.drew (Below.refl w6.heap.size w6)).trans (hb7.mono (Nat.le_refl w6.heap.size))).trans (hb8.mono zz7)
  have z68 := B68.size
  have x8 : w8.cell? ⟨w.heap.size, 0, none⟩ = some (.slice a n c) := (B68.cell z6').trans x6
  have u8 : w8.cell? ⟨w3.heap.size, 0, none⟩ = some (.slice a3 u' c3) := (B68.cell (by show w3.heap.size < _; omega)).trans u6
  have y8 : w8.cell? ⟨w4.heap.size, 0, none⟩ = some (.slice a4 n c4) := (B68.cell z6).trans y6
  have v8 : w8.cell? ⟨w5.heap.size, 0, none⟩ = some (.slice a5 u' c5) := (B68.cell (by show w5.heap.size < _; omega)).trans v6
  have HB8 : Hid (Below w.heap.size w w8) := HB6.out.trans (B68.mono HB6.out.size)
  have HO8 : Hid (FOwn w8 b4 a4 n N P4 Q4) := HO6.out.below B68
  have HK8 : Hid (FOwn w8 b3 a3 u' G P3 Q3) := HK6.out.below B68
  have HG8 : Hid (FOwn w8 b5 a5 u' G P5 Q5) := HG6.out.below B68
  clear hb7 hb8 hc7 hf7 hc8 hf8 zz7 B68 ho7 HO6 HK6 HG6 x6 y6 u6 v6
  go_wp2_with fail
  refine (markFilter_any b4 c4 n a4 N P4 Q4 1 _ (by omega) (by omega) n20 (by omega) HO8.out).mono ?_
  rintro e w9 ⟨rfl, hk9, _⟩
  have z89 := hk9.size
  have hin : ∀ x, InF b4 n P4 Q4 x → w3.heap.size < x ∧ x < w4.heap.size := fun x hx => by
    have := InF.in (lo := w3.heap.size + 1) (hi := w4.heap.size) ⟨by have := HR4.out.1; omega, HR4.out.1.2⟩ (fun i hi => ⟨by have := HR4.out.2 i hi; omega, (HR4.out.2 i hi).2⟩) hx
    omega
  have x9 : w9.cell? ⟨w.heap.size, 0, none⟩ = some (.slice a n c) := (hk9.cell (by omega) (fun hx => by have := hin _ hx; omega)).trans x8
  have u9 : w9.cell? ⟨w3.heap.size, 0, none⟩ = some (.slice a3 u' c3) := (hk9.cell (by omega) (fun hx => by have := hin _ hx; omega)).trans u8
  have v9 : w9.cell? ⟨w5.heap.size, 0, none⟩ = some (.slice a5 u' c5) := (hk9.cell (by omega) (fun hx => by have := hin _ hx; omega)).trans v8
  have HB9 : Hid (Below w.heap.size w w9) := HB8.out.trans (hk9.below HB8.out.size (fun k hk hx => by have := hin _ hx; omega))
  have HK9 : Hid (FOwn w9 b3 a3 u' G P3 Q3) := HK8.out.away hk9 0 w3.heap.size (fun h => ⟨Nat.zero_le _, HR3.out.1 h⟩) (fun i hi => ⟨Nat.zero_le _, HR3.out.2 i hi⟩) (fun x hx => by have := hin _ hx; omega)
  have HG9 : Hid (FOwn w9 b5 a5 u' G P5 Q5) := HG8.out.away hk9 (w4.heap.size + 1) w5.heap.size (fun h => by have := HR5.out.1 h; omega) (fun i hi => by have := HR5.out.2 i hi; omega) (fun x hx => by have := hin _ hx; omega)
  have kb1 := kAt_bound N 1 n
  have nk1 : ¬ kAt N 1 n < 0 := by omega
  clear hk9 hin HO8 HK8 HG8 x8 y8 u8 v8
  go_wp2_with fail
  refine (eqFilter_same a5 a3 c5 c3 u' G _ u40 HU.out.2 HG9.out.arg HK9.out.arg).mono ?_
  rintro e w10 ⟨rfl, hb10⟩
  have z910 := hb10.size
  have x10 : w10.cell? ⟨w.heap.size, 0, none⟩ = some (.slice a n c) := (hb10.cell (by show w.heap.size < _; omega)).trans x9
  have u10 : w10.cell? ⟨w3.heap.size, 0, none⟩ = some (.slice a3 u' c3) := (hb10.cell (by show w3.heap.size < _; omega)).trans u9
  have v10 : w10.cell? ⟨w5.heap.size, 0, none⟩ = some (.slice a5 u' c5) := (hb10.cell (by show w5.heap.size < _; omega)).trans v9
  have HB10 : Hid (Below w.heap.size w w10) := HB9.out.trans (hb10.mono HB9.out.size)
  have HK10 : Hid (FOwn w10 b3 a3 u' G P3 Q3) := HK9.out.below hb10
  obtain ⟨b6, hb6, HG10⟩ : ∃ b6, ((w4.heap.size < b6 ∧ b6 < w5.heap.size) ∨ (u' = 0 ∧ w10.heap.size ≤ b6)) ∧ Hid (FOwn w10 b6 a5 u' G P5 Q5) := by
    by_cases hu0 : u' = 0
    · refine ⟨w10.heap.size, .inr ⟨hu0, Nat.le_refl _⟩, ?_⟩
      exact ⟨by omega, .inl hu0, fun i hi => by omega, fun i j _ hj => by omega⟩
    · exact ⟨b5, .inl (HR5.out.1 hu0), HG9.out.below hb10⟩
  clear hb10 HK9 HG9 x9 u9 v9
  go_wp2_with fail
  refine (markFilter_any b6 c5 u' a5 G P5 Q5 1 _ (by omega) (by omega) (by omega) HU.out.1 HG10.out).mono ?_
  rintro e w11 ⟨rfl, hk11, hF11⟩
  have z1011 := hk11.size
  have hin : ∀ x, InF b6 u' P5 Q5 x → (w4.heap.size < x ∧ x < w5.heap.size) ∨ w10.heap.size ≤ x := fun x hx => by
    rcases hx with rfl | ⟨i, hi, h3, h4⟩
    · omega
    · have := HR5.out.2 i hi; omega
  have x11 : w11.cell? ⟨w.heap.size, 0, none⟩ = some (.slice a n c) := (hk11.cell (by omega) (fun hx => by have := hin _ hx; omega)).trans x10
  have u11 : w11.cell? ⟨w3.heap.size, 0, none⟩ = some (.slice a3 u' c3) := (hk11.cell (by omega) (fun hx => by have := hin _ hx; omega)).trans u10
  have v11 : w11.cell? ⟨w5.heap.size, 0, none⟩ = some (.slice a5 u' c5) := (hk11.cell (by omega) (fun hx => by have := hin _ hx; omega)).trans v10
  have HB11 : Hid (Below w.heap.size w w11) := HB10.out.trans (hk11.below HB10.out.size (fun k hk hx => by have := hin _ hx; omega))
  have HK11 : Hid (FOwn w11 b3 a3 u' G P3 Q3) := HK10.out.away hk11 0 w3.heap.size (fun h => ⟨Nat.zero_le _, HR3.out.1 h⟩) (fun i hi => ⟨Nat.zero_le _, HR3.out.2 i hi⟩) (fun x hx => by have := hin _ hx; omega)
  have HG11 : Hid (FOwn w11 b6 a5 u' (mkTo G 1 u') P5 Q5) := hF11
  have kb2 := kAt_bound G 1 u'
  have HTU := HU.out.1
  have nk2 : ¬ kAt G 1 u' < 0 := by omega
  clear hk11 hin hF11 HK10 HG10 x10 u10 v10
  go_wp2_with fail
  refine (heldFilter_any b6 c5 u' a5 G P5 Q5 1 _ (by omega) (by omega) (by omega) HU.out.1 HG11.out).mono ?_
  rintro e w12 ⟨rfl, hb12⟩
  have z1112 := hb12.size
  have x12 : w12.cell? ⟨w.heap.size, 0, none⟩ = some (.slice a n c) := (hb12.cell (by show w.heap.size < _; omega)).trans x11
  have u12 : w12.cell? ⟨w3.heap.size, 0, none⟩ = some (.slice a3 u' c3) := (hb12.cell (by show w3.heap.size < _; omega)).trans u11
  have v12 : w12.cell? ⟨w5.heap.size, 0, none⟩ = some (.slice a5 u' c5) := (hb12.cell (by show w5.heap.size < _; omega)).trans v11
  have HB12 : Hid (Below w.heap.size w w12) := HB11.out.trans (hb12.mono HB11.out.size)
  have HK12 : Hid (FOwn w12 b3 a3 u' G P3 Q3) := HK11.out.below hb12
  have HG12 : Hid (FOwn w12 b6 a5 u' (mkTo G 1 u') P5 Q5) := HG11.out.below hb12
  obtain ⟨kk, hkk⟩ : ∃ kk, kk = kAt G 1 u' := ⟨_, rfl⟩
  have HKK : Hid (kk = kAt G 1 u') := hkk
  rw [← hkk] at nk2
  rw [← hkk]
  clear hb12 HK11 HG11 x11 u11 v11 hkk kb2
  go_wp2_with fail
  refine (toFilter_any a c n N _ HSM.out (H.out.below HB12.out)).mono ?_
  rintro e w13 ⟨a13, c13, rfl, ho13, hb13⟩
  have z1213 := hb13.size
  have u13 : w13.cell? ⟨w3.heap.size, 0, none⟩ = some (.slice a3 u' c3) := (hb13.cell (by show w3.heap.size < _; omega)).trans u12
  have v13 : w13.cell? ⟨w5.heap.size, 0, none⟩ = some (.slice a5 u' c5) := (hb13.cell (by show w5.heap.size < _; omega)).trans v12
  have HB13 : Hid (Below w.heap.size w w13) := HB12.out.trans (hb13.mono HB12.out.size)
  have HO13 : Hid (FArg w13 a13 n N) := ho13.arg
  have HK13 : Hid (FOwn w13 b3 a3 u' G P3 Q3) := HK12.out.below hb13
  have HG13 : Hid (FOwn w13 b6 a5 u' (mkTo G 1 u') P5 Q5) := HG12.out.below hb13
  clear hb13 ho13 HK12 HG12 x12 u12 v12
  go_wp2_with fail
  refine (implNeg_any a13 c13 n N _ HO13.out HSM.out (HTB.out.up HB13.out) (HML.out.below HB13.out)).mono ?_
  rintro e w14 ⟨u'', g', hg, a14, c14, b14, P14, Q14, rfl, _, _, hF14, hb14⟩
  obtain ⟨rfl, rfl⟩ : u'' = u' ∧ g' = g := by
    rcases hg with ⟨h1, h2, rfl, rfl⟩ | ⟨h1, rfl, rfl⟩ <;> rcases HQ.out with ⟨h3, h4, rfl, rfl⟩ | ⟨h3, rfl, rfl⟩
    · exact ⟨rfl, rfl⟩
    · exact absurd ⟨h1, h2⟩ h3
    · exact absurd ⟨h3, h4⟩ h1
    · exact ⟨rfl, rfl⟩
  have z1314 := hb14.size
  have u14 : w14.cell? ⟨w3.heap.size, 0, none⟩ = some (.slice a3 u'' c3) := (hb14.cell (by show w3.heap.size < _; omega)).trans u13
  have v14 : w14.cell? ⟨w5.heap.size, 0, none⟩ = some (.slice a5 u'' c5) := (hb14.cell (by show w5.heap.size < _; omega)).trans v13
  have z14u : w3.heap.size < w14.heap.size := by omega
  have z14v : w5.heap.size < w14.heap.size := by omega
  have HB14 : Hid (Below w.heap.size w w14) := HB13.out.trans (hb14.mono HB13.out.size)
  have HK14 : Hid (FOwn w14 b3 a3 u'' G P3 Q3) := HK13.out.below hb14
  have HG14 : Hid (FOwn w14 b6 a5 u'' (mkTo G 1 u'') P5 Q5) := HG13.out.below hb14
  have HH14 : Hid (FOwn w14 b14 a14 u'' G P14 Q14) := by rw [HGE.out]; exact hF14
  clear hb14 hF14 HK13 HG13 u13 v13 hg HO13
  go_wp2_with fail
  have al14 : ∀ o, Below w14.heap.size w14 (w14.alloc o) := fun o => (Below.refl _ _).alloc (Nat.le_refl _) o
  refine (eqFilter_same a14 a3 c14 c3 u'' G _ u40 HU.out.2 (HH14.out.below (al14 _)).arg (HK14.out.below (al14 _)).arg).mono ?_
  rintro e w15 ⟨rfl, hb15⟩
  have B45 : Below w14.heap.size w14 w15 := (al14 _).trans (hb15.mono (by simp))
  have v15 : w15.cell? ⟨w5.heap.size, 0, none⟩ = some (.slice a5 u'' c5) := (B45.cell (by show w5.heap.size < _; omega)).trans v14
  have z15 := B45.size
  have HB15 : Hid (Below w.heap.size w w15) := HB14.out.trans (B45.mono HB14.out.size)
  have HG15 : Hid (FOwn w15 b6 a5 u'' (mkTo G 1 u'') P5 Q5) := HG14.out.below B45
  clear hb15 HK14 HG14 HH14 al14 B45 v14 u14
  go_wp2_with fail
  refine (heldFilter_any b6 c5 u'' a5 G P5 Q5 1 _ (by omega) (by omega) (by omega) HU.out.1 HG15.out).mono ?_
  rw [← HKK.out]
  rintro e w16 ⟨rfl, hb16⟩
  have HB16 : Hid (Below w.heap.size w w16) := HB15.out.trans (hb16.mono HB15.out.size)
  clear hb16 HG15
  go_wp2
  go_ret
  exact ⟨rfl, HB16.out⟩

end Go.Proofs.YtadlflgflnlhjaaGreatDoor
