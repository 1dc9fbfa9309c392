/- Ranks of places by so many bytes: stretchAt and ranksBy. No condition but that a text is short enough. -/
import Derived.Test.YtkboblfjchkedaaSxE
import Derived.Test.YtkboblfjchkedaaSxS
import Derived.Test.YtkboblfjchkedaaKSstring
namespace Go.Proofs.Ytkboblfjchkedaa
open Go.RowKit
set_option linter.unusedVariables false

theorem enc_ext (s : ByteArray) (i k m : Nat) (hm : m = min (i + k) s.size) : (Value.string (s.extract i m)) = encStr (stL (tx s) k i) := by
  show Value.string _ = Value.string _
  congr 1
  apply ByteArray.ext
  apply Array.toList_inj.1
  have h : tx (s.extract i m) = stL (tx s) k i := by
    rw [tx_ext]
    unfold stL
    by_cases c : i + k ≤ s.size
    · rw [hm, Nat.min_eq_left c, show i + k - i = k by omega]
    · rw [hm, Nat.min_eq_right (by omega), List.take_of_length_le (by rw [List.length_drop, tx_len]; omega), List.take_of_length_le (by rw [List.length_drop, tx_len]; omega)]
  simpa [tx] using h
set_option maxRecDepth 100000 in
theorem stretchAt_k (s : ByteArray) (i k : Nat) (w : World) (hi : i ≤ s.size) (hk : k ≤ 2 ^ 20) (hs : s.size ≤ 2 ^ 20) :
    Calls Try.prog 33 #[.string s, .int .i64 i, .int .i64 k] w fun e w' => e = .returned (encStr (stL (tx s) k i)) ∧ w' = w := by
  obtain ⟨m, hm⟩ : ∃ m, m = min (i + k) s.size := ⟨_, rfl⟩
  rw [← enc_ext s i k m hm]
  have e1 : min ((i : Int) + (k : Int)) (s.size : Int) = (m : Int) := by omega
  have e2 : i ≤ m := by omega
  have e3 : m ≤ s.size := by omega
  clear hm
  go_enter Try.func33, Try.ntmps33
  go_wp2
  go_ret
  exact ⟨rfl, rfl⟩
theorem PlainK.put1 {α : Type} {K : Kd α} {cs : α → List Value} {ok : α → Prop} (H : PlainK K cs ok) (h1 : K.wd = 1) {w : World} {S : Nat → Prop} {b off n c : Nat} {l : List α} (h : (kRow K).is true w S [.slice (some ⟨b, off, none⟩) n c] l) {i : Nat} {x : α} {v : Value} (hi : i < l.length) (hv : cs x = [v]) (hx : ok x) (hl : l.length ≤ 2 ^ 30) :
    (kRow K).is true (w.setCell ⟨b, off + i, none⟩ v) S [.slice (some ⟨b, off, none⟩) n c] (l.set i x) := by
  have hn := row_len h
  have hc := row_cap h
  obtain ⟨y, hy⟩ : ∃ y, l[i]? = some y := ⟨_, List.getElem?_eq_getElem hi⟩
  obtain ⟨b', off', B, C, e, hb, hSb, _⟩ := row_at h hy
  obtain ⟨rfl, rfl⟩ : b = b' ∧ off = off' := by injection e with e; injection e with e1 e2; exact ⟨e1, e2⟩
  refine H.shut (fun j z hz q u hu => ?_) (by rw [World.size_setCell]; exact hb) hSb (by rw [List.length_set]; exact hn) hc (by rw [List.length_set]; exact hl) (fun z hz => ?_)
  · rw [h1, World.frozen?_setCell]
    rw [List.getElem?_set] at hz
    have hq : q = 0 := by
      have := (List.getElem?_eq_some_iff.1 hu).1
      rw [H.wd, h1] at this
      omega
    subst hq
    by_cases e : i = j
    · subst e
      rw [if_pos rfl, if_pos hi] at hz
      injection hz with hz
      subst hz
      rw [hv] at hu
      have hu' : v = u := by simpa using hu
      subst hu'
      obtain ⟨v0, hv0⟩ : ∃ v0, (cs y)[0]? = some v0 := ⟨_, List.getElem?_eq_getElem (by rw [H.wd, h1]; omega)⟩
      have c0 := H.cell h hy hv0
      have f0 := H.open h hy hv0
      rw [h1] at c0 f0
      rw [show off + i * 1 + 0 = off + i by omega] at c0 f0 ⊢
      exact ⟨World.cell?_setCell_same _ _ _ c0, f0⟩
    · rw [if_neg e] at hz
      have c0 := H.cell h hz hu
      have f0 := H.open h hz hu
      rw [h1] at c0 f0
      rw [World.cell?_setCell_other _ _ _ _ (by intro e2; injection e2; omega)]
      exact ⟨c0, f0⟩
  · rcases List.mem_or_eq_of_mem_set hz with hz | rfl
    · exact H.oks h z hz
    · exact hx
theorem made_row {α : Type} {K : Kd α} {cs : α → List Value} {ok : α → Prop} (H : PlainK K cs ok) (h1 : K.wd = 1) {w : World} {S : Nat → Prop} {g n : Nat} {x : α} {v : Value} {t : TypeId} (hg : w.heap[g]? = some (.cells (madeCells #[v] n) t)) (hv : cs x = [v]) (hx : ok x) (hS : S g) (hn : n ≤ 2 ^ 30) :
    (kRow K).is true w S [.slice (some ⟨g, 0, none⟩) n n] (List.replicate n x) := by
  have hb : g < w.heap.size := (Array.getElem?_eq_some_iff.1 hg).1
  refine H.shut (fun j z hz q u hu => ?_) hb hS (by simp) (Nat.le_refl _) (by simpa using hn) (fun z hz => by rw [List.eq_of_mem_replicate hz]; exact hx)
  have hj : j < n := by have := (List.getElem?_eq_some_iff.1 hz).1; simpa using this
  have hz' : x = z := by simpa [List.getElem?_replicate, hj] using hz
  subst hz'
  have hq : q = 0 := by
    have := (List.getElem?_eq_some_iff.1 hu).1
    rw [H.wd, h1] at this
    omega
  subst hq
  rw [hv] at hu
  have hu' : v = u := by simpa using hu
  subst hu'
  rw [h1, show 0 + j * 1 + 0 = j by omega, cell_of_row _ _ _ _ _ _ hg]
  refine ⟨?_, by simp [World.frozen?, hg]⟩
  simp [madeCells, hj, show j % 1 = 0 by omega]
theorem set_upto {α : Type} (f : Nat → α) (z : α) (n k : Nat) (hk : k < n) : ((List.range n).map fun i => if i < k then f i else z).set k (f k) = (List.range n).map fun i => if i < k + 1 then f i else z := by
  refine List.ext_getElem? fun i => ?_
  rw [List.getElem?_set]
  by_cases hi : i < n
  · by_cases e : k = i
    · subst e; simp [hk]
    · rw [if_neg e]
      simp only [List.getElem?_map, List.getElem?_range hi, Option.map_some]
      by_cases c : i < k
      · rw [if_pos c, if_pos (by omega)]
      · rw [if_neg c, if_neg (by omega)]
  · rw [List.getElem?_eq_none (by simp; omega), List.getElem?_eq_none (by simp; omega)]
    split
    · rw [if_neg (by simp; omega)]
    · rfl
theorem upto_none {α : Type} (f : Nat → α) (z : α) (n : Nat) : ((List.range n).map fun i => if i < 0 then f i else z) = List.replicate n z := by
  refine List.ext_getElem? fun i => ?_
  by_cases hi : i < n
  · simp [hi]
  · rw [List.getElem?_eq_none (by simp; omega), List.getElem?_eq_none (by simp; omega)]
theorem upto_all {α : Type} (f : Nat → α) (z : α) (n : Nat) : ((List.range n).map fun i => if i < n then f i else z) = (List.range n).map f :=
  List.map_congr_left fun i hi => by rw [if_pos (by simpa using hi)]
theorem rkL_is (t : List UInt8) (k i : Nat) (h : i < t.length) : rkL ((List.range t.length).map (stL t k)) i = rkS t k i := by
  unfold rkL rkS
  rw [List.getD_eq_getElem?_getD]
  simp [h]
set_option maxRecDepth 100000 in
set_option maxHeartbeats 4000000 in
theorem ranksBy_k (s : ByteArray) (k : Nat) (w : World) (hs : s.size ≤ 120) (hk : k ≤ 2 ^ 20) :
    Calls Try.prog 48 #[.string s, .int .i64 k] w fun e w' => e = .returned (.agg (rkA (rkS (tx s) k) s.size)) ∧ Below w.heap.size w w' := by
  obtain ⟨zv, zs⟩ := zero_of_info info_pr
  obtain ⟨Z, hZ⟩ : ∃ Z : Array Value, Z = Array.replicate 120 (.int .i64 0) := ⟨_, rfl⟩
  rw [← hZ] at zv
  have HZ : Hid (Z = rkA (rkS (tx s) k) 0) := by show _ = _; rw [rkA_zero, hZ]
  have HZS : Hid ((Try.prog.info? 53).map (·.size) = some 120) := zs
  have hmk := makeStringS s.size (by omega)
  obtain ⟨W1, hW1⟩ : ∃ W1, W1 = (w.alloc (.cells Z 53)).alloc (.cells (madeCells #[.string ⟨#[]⟩] s.size) 9) := ⟨_, rfl⟩
  have H0 : Hid (W1.heap[w.heap.size]? = some (.cells Z 53)) := by show _ = _; rw [hW1, (below_a1r (w.alloc (.cells Z 53)) _).block w.heap.size (by simp)]; exact heap_alloc_last _ _
  have HB1 : Hid (Below w.heap.size w W1) := by show Below _ _ _; rw [hW1]; exact ((Below.refl _ _).alloc (Nat.le_refl _) _).alloc (by simp) _
  have z1 : W1.heap.size = w.heap.size + 1 + 1 := by rw [hW1]; simp
  have HR1 : Hid ((kRow kTx).is true W1 (fun q => q = w.heap.size + 1) [.slice (some ⟨w.heap.size + 1, 0, none⟩) s.size s.size] ((List.range s.size).map fun i => if i < 0 then stL (tx s) k i else [])) := by
    show (kRow kTx).is _ _ _ _ _
    rw [upto_none]
    have hl := heap_alloc_last (w.alloc (.cells Z 53)) (.cells (madeCells #[.string ⟨#[]⟩] s.size) 9)
    rw [← hW1, World.size_alloc] at hl
    exact made_row kTx_plain rfl hl (show txC [] = [.string ⟨#[]⟩] from rfl) (by simp) rfl (by omega)
  clear hZ zs
  go_enter Try.func48, Try.ntmps48
  go_wp2_with fail
  rw [← hW1]
  obtain ⟨g, hg⟩ : ∃ g, g = w.heap.size + 1 := ⟨_, rfl⟩
  rw [← hg] at HR1 ⊢
  have zg : g < W1.heap.size := by omega
  have zg0 : w.heap.size < g := by omega
  have HS : Hid (s.size = (tx s).length) := rfl
  clear hW1 hg z1 hmk
  obtain ⟨n, hn⟩ : ∃ n, n = s.size := ⟨_, rfl⟩
  have HN : Hid (n = s.size) := hn
  rw [← hn] at hs HR1 ⊢
  clear hn
  go_loopw [12] (fun kv wr => ∃ p : Nat, p ≤ n ∧ kv = .int .i64 p ∧ Hid ((kRow kTx).is true wr (fun q => q = g) [.slice (some ⟨g, 0, none⟩) n n] ((List.range n).map fun i => if i < p then stL (tx s) k i else [])) ∧ Hid (Below g W1 wr)) (fun kv _ => n - (intOf kv).toNat)
  case atStart => exact ⟨0, Nat.zero_le _, rfl, HR1, Below.refl _ _⟩
  case round =>
    obtain ⟨p, hp, rfl, HG, HX⟩ := hrel
    by_cases hlt : p < n
    · have hcl := stretchAt_k s p k wr (by rw [← HN.out]; omega) hk (by rw [← HN.out]; omega)
      have HP : Hid ((kRow kTx).is true (wr.setCell ⟨g, 0 + p, none⟩ (encStr (stL (tx s) k p))) (fun q => q = g) [.slice (some ⟨g, 0, none⟩) n n] ((List.range n).map fun i => if i < p + 1 then stL (tx s) k i else [])) := by
        have := kTx_plain.put1 rfl HG.out (i := p) (x := stL (tx s) k p) (v := encStr (stL (tx s) k p)) (by simpa using hlt) rfl (by unfold stL; simp; omega) (by simp; omega)
        rw [set_upto (stL (tx s) k) [] n p hlt] at this
        exact this
      have A0 : ∃ v, wr.cell? ⟨g, p, none⟩ = some v ∧ wr.frozen? ⟨g, p, none⟩ = false := by
        have hx : ((List.range n).map fun i => if i < p then stL (tx s) k i else [])[p]? = some (if p < p then stL (tx s) k p else []) := by simp [hlt]
        have h1 := kTx_plain.cell HG.out hx (j := 0) rfl
        have h2 := kTx_plain.open HG.out hx (j := 0) rfl
        rw [show 0 + p * kTx.wd + 0 = p by show 0 + p * 1 + 0 = p; omega] at h1 h2
        exact ⟨_, h1, h2⟩
      obtain ⟨v0, A1, A2⟩ := A0
      obtain ⟨X, hX⟩ : ∃ X, encStr (stL (tx s) k p) = .string X := ⟨_, rfl⟩
      rw [hX] at hcl HP
      clear hX
      have k0 : (0 : Int) ≤ (p : Int) := by omega
      have k1 : (p : Int) < (n : Int) := by omega
      rw [show 0 + p = p by omega] at HP
      go_wp2_with fail
      refine hcl.mono ?_
      rintro e w5 ⟨rfl, rfl⟩
      go_wp2
      go_roundw
      case rel =>
        refine ⟨p + 1, by omega, by go_num, HP, ?_⟩
        exact HX.out.setCell (by show g ≤ g; omega) _
      case measure => simp [intOf]; omega
    · obtain rfl : p = n := by omega
      have k1 : ¬ (p : Int) < (p : Int) := by omega
      have HG2 : Hid ((kRow kTx).is false wr (fun q => q = g) [.slice (some ⟨g, 0, none⟩) p p] ((List.range p).map (stL (tx s) k))) := by
        have := (kRow kTx).read HG.out
        rw [upto_all] at this
        exact this
      clear HG
      go_wp2_with fail
      refine (ranksTx_k _ _ _ _ _ wr HG2.out (by simpa using hs)).mono ?_
      rintro e w6 ⟨rfl, hb6⟩
      have HB6 : Hid (Below g W1 w6) := HX.out.trans (hb6.mono (by have := HX.out.size; omega))
      have H6 : Hid (w6.heap[w.heap.size]? = some (.cells Z 53)) := by show _ = _; rw [HB6.out.block _ zg0]; exact H0.out
      have HE : Hid (rkA (rkL ((List.range p).map (stL (tx s) k))) ((List.range p).map (stL (tx s) k)).length = rkA (rkS (tx s) k) s.size) := by
        show _ = _
        have hps : p = (tx s).length := HN.out
        rw [List.length_map, List.length_range, ← HN.out]
        refine rkA_ext fun i hi => ?_
        rw [hps]
        exact rkL_is _ _ _ (by rw [← hps]; exact hi)
      rw [HE.out]
      obtain ⟨R, hR⟩ : ∃ R, R = rkA (rkS (tx s) k) s.size := ⟨_, rfl⟩
      have hRs : R.size = 120 := by rw [hR, rkA_size]
      have hRo : R.all (·.oneCell') = true := by rw [hR]; exact rkA_one _ _
      have hst : (storeVar 53 ⟨w.heap.size, 0, none⟩ (.agg R)).run Try.prog w6 = .ok () (w6.setRow w.heap.size R) := run_storeVar_row w6 _ _ _ _ _ H6.out (by rw [hRs]; exact HZS.out) (by rw [HZ.out, rkA_size, hRs]) hRo
      have HL7 : Hid ((w6.setRow w.heap.size R).heap[w.heap.size]? = some (.cells R 53)) := set_row_same H6.out
      have HB7 : Hid (Below w.heap.size w (w6.setRow w.heap.size R)) := (HB1.out.trans (HB6.out.mono (by omega))).trans ((set_row_kept w6 w.heap.size _).below (by have := HB6.out.size; omega) (fun q hq e => by omega))
      have HE2 : Hid (R = rkA (rkS (tx s) k) s.size) := hR
      rw [← hR]
      have hsc := store_cells (by rw [hRs]; exact HZS.out) hst
      generalize w6.setRow w.heap.size R = W7 at *
      clear hR hst hRo
      go_wp2_with fail
      refine bodyPost_ret (v := .agg R) ?_ rfl ⟨by rw [HE2.out], HB7.out⟩
      exact results_cell_row rfl _ _ w.heap.size _ R _ _ rfl HL7.out Try.underlying53 rfl (by rw [hRs]; exact HZS.out)
end Go.Proofs.Ytkboblfjchkedaa
