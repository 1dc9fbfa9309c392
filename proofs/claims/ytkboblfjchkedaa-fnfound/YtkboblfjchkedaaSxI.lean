/- All endings in order: the program's SuffixesOf. No condition but that a text fits in memory. -/
import Derived.Test.YtkboblfjchkedaaSxH
import Derived.Test.YtkboblfjchkedaaSxT
import Derived.Test.YtkboblfjchkedaaKSint
namespace Go.Proofs.Ytkboblfjchkedaa
open Go.RowKit Go.Sort
set_option linter.unusedVariables false

set_option maxRecDepth 100000 in
set_option maxHeartbeats 4000000 in
theorem implSuffixesOf_k (x0 : ByteArray) (w : World) (h0 : x0.size ≤ 2 ^ 20) :
    Calls Try.prog 9 #[.string x0] w (RSuffixesOf x0 w) := by
  by_cases h2 : x0.size ≤ 120
  · have h3 : ¬ (120 : Int) < (x0.size : Int) := by omega
    have HF : Hid (fSuffixesOf x0 = (nts (sufL (tx x0)), true)) := by show _ = _; unfold fSuffixesOf; rw [if_pos h2]
    obtain ⟨zv, zs⟩ := zero_of_info info_pr
    obtain ⟨Z, hZ⟩ : ∃ Z : Array Value, Z = Array.replicate 120 (.int .i64 0) := ⟨_, rfl⟩
    rw [← hZ] at zv
    have HZ : Hid (Z.size = 120) := by show _ = _; rw [hZ]; simp
    have HZS : Hid ((Try.prog.info? 53).map (·.size) = some 120) := zs
    have HS : Hid (x0.size = (tx x0).length) := rfl
    have hmk := makeIntS x0.size (by omega)
    obtain ⟨W1, hW1⟩ : ∃ W1, W1 = w.alloc (.cells (madeCells #[.int .i64 0] x0.size) 3) := ⟨_, rfl⟩
    obtain ⟨g, hg⟩ : ∃ g, g = w.heap.size := ⟨_, rfl⟩
    have HG0 : Hid (g = w.heap.size) := hg
    have HR1 : Hid ((kRow kInt).is true W1 (fun q => q = g) [.slice (some ⟨g, 0, none⟩) x0.size x0.size] (List.replicate x0.size (0 : Int))) := by
      have hl := heap_alloc_last w (.cells (madeCells #[.int .i64 0] x0.size) 3)
      rw [← hW1, ← hg] at hl
      exact made_row kInt_plain rfl hl (show inC 0 = [.int .i64 0] from rfl) (by unfold IntOk; omega) rfl (by omega)
    have HB1 : Hid (Below w.heap.size w W1) := by show Below _ _ _; rw [hW1]; exact below_a1r _ _
    have z1 : W1.heap.size = g + 1 := by rw [hW1, hg]; simp
    have hcl := ranksOfEndings_k x0 W1 h2
    clear hZ zs
    go_enter Try.func9, Try.ntmps9
    go_wp2_with fail
    rw [← hW1, ← hg]
    refine hcl.mono ?_
    rintro e w2 ⟨k, hk0, hst, rfl, hb2⟩
    have HST : Hid (∀ i, i < x0.size → rkS (tx x0) k i = rkS (tx x0) (2 * k) i) := hst
    have z2 := hb2.size
    obtain ⟨g5, hg5⟩ : ∃ g5, g5 = w2.heap.size := ⟨_, rfl⟩
    have hA : (w2.alloc (.cells Z 53)).heap[g5]? = some (.cells Z 53) := by rw [hg5]; exact heap_alloc_last _ _
    have hsc := store_whole hA HZS.out HZ.out (rkA_ok (rkS (tx x0) k) x0.size).1 (rkA_ok _ _).2
    obtain ⟨W3, hW3⟩ : ∃ W3, W3 = (w2.alloc (.cells Z 53)).setRow g5 (rkA (rkS (tx x0) k) x0.size) := ⟨_, rfl⟩
    have HG : Hid (W3.heap[g5]? = some (.cells (rkA (rkS (tx x0) k) x0.size) 53)) := by show _ = _; rw [hW3]; exact set_row_same hA
    have HB3 : Hid (Below W1.heap.size W1 W3) := by
      show Below _ _ _
      rw [hW3]
      exact ((hb2.trans ((below_a1r _ _).mono z2))).trans ((set_row_kept _ g5 _).below (by simp; omega) (fun q hq e => by omega))
    have zg : g < g5 := by omega
    have zg5 : g5 < W3.heap.size := (Array.getElem?_eq_some_iff.1 HG.out).1
    rw [← hW3, hg5] at hsc
    obtain ⟨R1, hR1⟩ : ∃ R1, R1 = rkA (rkS (tx x0) k) x0.size := ⟨_, rfl⟩
    have r1 : R1.size = 120 := by rw [hR1]; exact rkA_size _ _
    have HRR : Hid (R1 = rkA (rkS (tx x0) k) x0.size) := hR1
    rw [← hR1] at hsc HG ⊢
    clear hcl hb2 hA hW3 z2 hR1 hst hW1 hmk
    go_wp2_with fail
    rw [← hg5]
    have HR3 : Hid ((kRow kInt).is true W3 (fun q => q = g) [.slice (some ⟨g, 0, none⟩) x0.size x0.size] (List.replicate x0.size (0 : Int))) := Kd.below HR1.out HB3.out
    clear hg5 hsc HR1 z1 hg
    obtain ⟨n, hn⟩ : ∃ n, n = x0.size := ⟨_, rfl⟩
    have HN : Hid (n = x0.size) := hn
    rw [← hn] at HR3 h2 ⊢
    clear hn h3 h0 r1
    rw [← HG0.out]
    go_loopw [17] (fun kv wr => ∃ p : Nat, p ≤ n ∧ kv = .int .i64 p ∧ (∃ L : List Nat, Hid (L.length = n) ∧ Hid (∀ i, i < p → L[rkS (tx x0) k i]? = some i) ∧ Hid ((kRow kInt).is true wr (fun q => q = g) [.slice (some ⟨g, 0, none⟩) n n] (nts L))) ∧ Hid (Below g W3 wr) ∧ Hid (wr.heap[g5]? = some (.cells R1 53))) (fun kv _ => n - (intOf kv).toNat)
    case atStart => exact ⟨0, Nat.zero_le _, rfl, ⟨List.replicate n 0, by show _ = _; simp, fun i hi => by omega, by show (kRow kInt).is _ _ _ _ _; rw [show nts (List.replicate n 0) = List.replicate n (0 : Int) by simp [nts]]; exact HR3.out⟩, Below.refl _ _, HG⟩
    case round =>
      obtain ⟨p, hp, rfl, ⟨L, HL, HI, HR⟩, HX, HG5⟩ := hrel
      by_cases hlt : p < n
      · have hrk : rkS (tx x0) k p < n := by
          have := rkS_lt (tx x0) k p (by rw [← HS.out, ← HN.out]; exact hlt)
          rw [← HS.out, ← HN.out] at this
          exact this
        have C0 : wr.cell? ⟨g5, p, none⟩ = some (.int .i64 (rkS (tx x0) k p)) := by rw [cell_of_row _ _ _ _ _ _ HG5.out, HRR.out, rkA_at (by omega), if_pos (by rw [← HN.out]; exact hlt)]
        have HNX : Hid (∀ i, i < p + 1 → (L.set (rkS (tx x0) k p) p)[rkS (tx x0) k i]? = some i) := by
          intro i hi
          rw [List.getElem?_set]
          by_cases e : i = p
          · subst e
            rw [if_pos rfl, if_pos (by rw [HL.out]; exact hrk)]
          · have hne : rkS (tx x0) k p ≠ rkS (tx x0) k i := fun e2 => e ((stay_inj hk0 (by rw [← HS.out]; exact HST.out) (by rw [← HS.out, ← HN.out]; omega) (by rw [← HS.out, ← HN.out]; omega) e2).symm)
            rw [if_neg hne]
            exact HI.out i (by omega)
        have HPUT : Hid ((kRow kInt).is true (wr.setCell ⟨g, rkS (tx x0) k p, none⟩ (.int .i64 (p : Int))) (fun q => q = g) [.slice (some ⟨g, 0, none⟩) n n] (nts (L.set (rkS (tx x0) k p) p))) := by
          have := kInt_plain.put1 rfl HR.out (i := rkS (tx x0) k p) (x := (p : Int)) (v := .int .i64 (p : Int)) (by rw [nts_len, HL.out]; exact hrk) rfl (by unfold IntOk; omega) (by rw [nts_len, HL.out]; omega)
          rw [show 0 + rkS (tx x0) k p = rkS (tx x0) k p by omega, show (nts L).set (rkS (tx x0) k p) (p : Int) = nts (L.set (rkS (tx x0) k p) p) by simp [nts, List.map_set]] at this
          exact this
        have HLL : Hid ((L.set (rkS (tx x0) k p) p).length = n) := by show _ = _; rw [List.length_set]; exact HL.out
        have A0 : ∃ v, wr.cell? ⟨g, rkS (tx x0) k p, none⟩ = some v ∧ wr.frozen? ⟨g, rkS (tx x0) k p, none⟩ = false := by
          obtain ⟨y, hy⟩ : ∃ y, (nts L)[rkS (tx x0) k p]? = some y := ⟨_, List.getElem?_eq_getElem (by rw [nts_len, HL.out]; exact hrk)⟩
          have h1 := kInt_plain.cell HR.out hy (j := 0) rfl
          have h2 := kInt_plain.open HR.out hy (j := 0) rfl
          rw [show 0 + rkS (tx x0) k p * kInt.wd + 0 = rkS (tx x0) k p by show 0 + rkS (tx x0) k p * 1 + 0 = _; omega] at h1 h2
          exact ⟨_, h1, h2⟩
        obtain ⟨v0, A1, A2⟩ := A0
        generalize L.set (rkS (tx x0) k p) p = L' at *
        obtain ⟨r, hr⟩ : ∃ r, r = rkS (tx x0) k p := ⟨_, rfl⟩
        rw [← hr] at hrk C0 HPUT A1 A2
        clear hr HR HI
        have k0 : (0 : Int) ≤ (p : Int) := by omega
        have k1 : (p : Int) < (n : Int) := by omega
        have k2 : (p : Int) < 120 := by omega
        have k3 : (0 : Int) ≤ (r : Int) := by omega
        have k4 : (r : Int) < (n : Int) := by omega
        go_wp2
        go_roundw
        case rel =>
          refine ⟨p + 1, by omega, by go_num, ⟨L', HLL, HNX, HPUT⟩, ?_, ?_⟩
          · exact HX.out.setCell (by show g ≤ g; omega) _
          · show _ = _
            rw [Below.heap_setCell _ _ _ _ (by show ¬ g5 = g; omega)]
            exact HG5.out
        case measure => simp [intOf]; omega
      · obtain rfl : p = n := by omega
        have k1 : ¬ (p : Int) < (p : Int) := by omega
        have HE : Hid (L = sufL (tx x0)) := lay_ranks hk0 (by rw [← HS.out]; exact HST.out) (by rw [HL.out, HN.out, HS.out]) (fun i hi => HI.out i (by rw [HN.out, HS.out]; exact hi))
        have HBW : Hid (Below w.heap.size w wr) := (HB1.out.trans (HB3.out.mono HB1.out.size)).trans (HX.out.mono (by have := HG0.out; omega))
        go_wp2
        refine bodyPost_ret (v := .tuple #[.slice (some ⟨g, 0, none⟩) p p, .bool true]) (by simp [results, Try.results9, go_sem]) rfl ?_
        unfold RSuffixesOf
        rw [HF.out, ← HE.out]
        exact ⟨_, p, p, _, rfl, HR.out, fun k hk => by rw [hk, HG0.out]; exact Nat.le_refl _, by rw [cnt_ints, nts_len, HL.out]; omega, HBW.out⟩
  · have h3 : (120 : Int) < (x0.size : Int) := by omega
    have HF : Hid (fSuffixesOf x0 = ([], false)) := by show _ = _; unfold fSuffixesOf; rw [if_neg h2]
    go_enter Try.func9, Try.ntmps9
    go_wp2
    refine bodyPost_ret (v := .tuple #[.slice none 0 0, .bool false]) (by simp [results, Try.results9, go_sem]) rfl ?_
    unfold RSuffixesOf
    rw [HF.out]
    exact ⟨none, 0, 0, fun _ => False, rfl, row_nil _ _ _ _ _ _, fun k hk => hk.elim, by simp [sums], Below.refl _ _⟩
end Go.Proofs.Ytkboblfjchkedaa
