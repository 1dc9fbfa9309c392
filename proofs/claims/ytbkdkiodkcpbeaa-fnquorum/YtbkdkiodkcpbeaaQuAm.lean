/- AlwaysMeet: both sides. No condition but that rows fit in memory. -/
import Derived.Test.YtbkdkiodkcpbeaaQuK
namespace Go.Proofs.Ytbkdkiodkcpbeaa
open Go.RowKit
set_option linter.unusedVariables false

/-- AlwaysMeet. -/
def fAlwaysMeet (x y z : List Int) : Bool × Bool := if z.length ≤ 7 ∧ someOk x z.length = true ∧ someOk y z.length = true then (x.any fun k => y.contains k, true) else (false, false)
/-- What AlwaysMeet answers. -/
def RAlwaysMeet (x0 : List Int) (x1 : List Int) (x2 : List Int) (w : World) (e : Ending) (w' : World) : Prop := e = .returned (.tuple #[.bool (fAlwaysMeet x0 x1 x2).1, .bool (fAlwaysMeet x0 x1 x2).2]) ∧ Below w.heap.size w w'
theorem meet_no {x y z : List Int} (h : ¬ (z.length ≤ 7 ∧ someOk x z.length = true ∧ someOk y z.length = true)) : fAlwaysMeet x y z = (false, false) := if_neg h
theorem meet_yes {x y z : List Int} (h : z.length ≤ 7 ∧ someOk x z.length = true ∧ someOk y z.length = true) : fAlwaysMeet x y z = (x.any fun k => y.contains k, true) := if_pos h
set_option maxRecDepth 100000 in
set_option maxHeartbeats 1000000 in
theorem meet1_k (s : List Int) (a1 : Option Addr) (n1 c1 : Nat) (S1 : Nat → Prop) (b : Nat) (k : Int) (w : World) (h1 : (kRow kInt).is false w S1 [.slice a1 n1 c1] s) (hc : w.cell? ⟨b, 0, none⟩ = some (.slice a1 n1 c1)) :
    Calls Try.prog 65 #[.int .i64 k, .pointer (some ⟨b, 0, none⟩)] w fun e w' => e = .returned (.bool (s.contains k)) ∧ Below w.heap.size w w' := by
  have hcl := containsI_k s a1 n1 c1 S1 k w h1
  clear h1
  obtain ⟨q, hq⟩ : ∃ q, q = s.contains k := ⟨_, rfl⟩
  rw [← hq] at hcl ⊢
  clear hq
  go_enter Try.func65, Try.ntmps65
  go_wp2_with fail
  refine hcl.mono ?_
  rintro e w1 ⟨rfl, rfl⟩
  go_wp2
  go_ret
  exact ⟨rfl, Below.refl _ _⟩
set_option maxRecDepth 100000 in
set_option maxHeartbeats 2000000 in
theorem implAlwaysMeet_k (x0 : List Int) (a0 : Option Addr) (n0 c0 : Nat) (S0 : Nat → Prop) (x1 : List Int) (a1 : Option Addr) (n1 c1 : Nat) (S1 : Nat → Prop) (x2 : List Int) (a2 : Option Addr) (n2 c2 : Nat) (S2 : Nat → Prop) (w : World) (h0 : (kRow kInt).is false w S0 [.slice a0 n0 c0] x0) (z0 : (kRow kInt).sz x0 ≤ 2 ^ 20) (h1 : (kRow kInt).is false w S1 [.slice a1 n1 c1] x1) (z1 : (kRow kInt).sz x1 ≤ 2 ^ 20) (h2 : (kRow kInt).is false w S2 [.slice a2 n2 c2] x2) (z2 : (kRow kInt).sz x2 ≤ 2 ^ 20) :
    Calls Try.prog 22 #[.slice a0 n0 c0, .slice a1 n1 c1, .slice a2 n2 c2] w (RAlwaysMeet x0 x1 x2 w) := by
  have HN2 : Hid (n2 = x2.length) := row_len h2
  have H0 : Hid ((kRow kInt).is false w S0 [.slice a0 n0 c0] x0) := h0
  have H1 : Hid ((kRow kInt).is false w S1 [.slice a1 n1 c1] x1) := h1
  clear h0 h1 h2 z0 z1 z2
  have HBA : Hid (Below w.heap.size w (w.alloc (.cells #[.slice a1 n1 c1] 26))) := below_a1q _ _
  by_cases c7 : n2 ≤ 7
  · have k7 : (n2 : Int) ≤ 7 := by omega
    have C0 : (w.alloc (.cells #[.slice a1 n1 c1] 26)).cell? ⟨w.heap.size, 0, none⟩ = some (.slice a1 n1 c1) := by simp [go_sem]
    have HR0 := risingAhead_k x0 a0 n0 c0 S0 n2 (w.alloc (.cells #[.slice a1 n1 c1] 26)) (Kd.below H0.out HBA.out)
    have HR1 := risingAhead_k x1 a1 n1 c1 S1 n2 (w.alloc (.cells #[.slice a1 n1 c1] 26)) (Kd.below H1.out HBA.out)
    have HNO : Hid ((someOk x0 n2 = false ∨ someOk x1 n2 = false) → fAlwaysMeet x0 x1 x2 = (false, false)) := fun h => meet_no fun g => by
      rw [← HN2.out] at g
      rcases h with h | h
      · rw [h] at g; cases g.2.1
      · rw [h] at g; cases g.2.2
    have HYES : Hid (someOk x0 n2 = true → someOk x1 n2 = true → fAlwaysMeet x0 x1 x2 = (x0.any fun k => x1.contains k, true)) := fun h h' => meet_yes (by rw [← HN2.out]; exact ⟨c7, h, h'⟩)
    go_enter Try.func22, Try.ntmps22
    cases q0 : someOk x0 n2 with
    | false =>
      have HF := HNO.out (.inl q0)
      rw [q0] at HR0
      have HF2 : Hid (fAlwaysMeet x0 x1 x2 = (false, false)) := HF
      clear HF HNO HYES
      go_wp2_with fail
      refine HR0.mono ?_
      rintro e w2 ⟨rfl, e2⟩
      rw [e2]
      clear e2
      go_wp2
      refine bodyPost_ret (v := .tuple #[.bool false, .bool false]) (by simp [results, Try.results22, go_sem]) rfl ?_
      unfold RAlwaysMeet
      rw [HF2.out]
      exact ⟨rfl, HBA.out⟩
    | true =>
      rw [q0] at HR0
      cases q1 : someOk x1 n2 with
      | false =>
        have HF2 : Hid (fAlwaysMeet x0 x1 x2 = (false, false)) := HNO.out (.inr q1)
        rw [q1] at HR1
        clear HNO HYES
        go_wp2_with fail
        refine HR0.mono ?_
        rintro e w2 ⟨rfl, e2⟩
        rw [e2]
        clear e2 HR0
        go_wp2_with fail
        refine HR1.mono ?_
        rintro e w2 ⟨rfl, e2⟩
        rw [e2]
        clear e2 HR1
        go_wp2
        refine bodyPost_ret (v := .tuple #[.bool false, .bool false]) (by simp [results, Try.results22, go_sem]) rfl ?_
        unfold RAlwaysMeet
        rw [HF2.out]
        exact ⟨rfl, HBA.out⟩
      | true =>
        have HF2 : Hid (fAlwaysMeet x0 x1 x2 = (x0.any fun k => x1.contains k, true)) := HYES.out q0 q1
        rw [q1] at HR1
        clear HNO HYES
        go_wp2_with fail
        refine HR0.mono ?_
        rintro e w2 ⟨rfl, e2⟩
        rw [e2]
        clear e2 HR0
        go_wp2_with fail
        refine HR1.mono ?_
        rintro e w2 ⟨rfl, e2⟩
        rw [e2]
        clear e2 HR1
        go_wp2_with fail
        refine (containsFI_k x0 a0 n0 c0 S0 65 #[.pointer (some ⟨w.heap.size, 0, none⟩)] (fun k => x1.contains k) _ (fun _ _ => rfl) (Kd.below H0.out HBA.out) (fun W x hb _ => meet1_k x1 a1 n1 c1 S1 w.heap.size x W (Kd.below (Kd.below H1.out HBA.out) hb) ((hb.cell (World.block_lt_of_cell? _ _ C0)).trans C0))).mono ?_
        rintro e w3 ⟨rfl, hb3⟩
        have HB3 : Hid (Below w.heap.size w w3) := HBA.out.trans (hb3.mono HBA.out.size)
        generalize (x0.any fun k => x1.contains k) = q at *
        go_wp2
        refine bodyPost_ret (v := .tuple #[.bool q, .bool true]) (by simp [results, Try.results22, go_sem]) rfl ?_
        unfold RAlwaysMeet
        rw [HF2.out]
        exact ⟨rfl, HB3.out⟩
  · have k7 : ¬ (n2 : Int) ≤ 7 := by omega
    have k8 : (7 : Int) < (n2 : Int) := by omega
    have HF : Hid (fAlwaysMeet x0 x1 x2 = (false, false)) := meet_no fun g => c7 (by rw [HN2.out]; exact g.1)
    go_enter Try.func22, Try.ntmps22
    go_wp2
    refine bodyPost_ret (v := .tuple #[.bool false, .bool false]) (by simp [results, Try.results22, go_sem]) rfl ?_
    unfold RAlwaysMeet
    rw [HF.out]
    exact ⟨rfl, HBA.out⟩
set_option maxRecDepth 100000 in
set_option maxHeartbeats 1000000 in
theorem hasI_k (l : List Int) (a : Option Addr) (n c : Nat) (S : Nat → Prop) (x : Int) (w : World) (h : (kRow kInt).is false w S [.slice a n c] l) :
    Calls Try.prog 74 #[.slice a n c, .int .i64 x] w fun e w' => e = .returned (.bool (l.contains x)) ∧ w' = w := by
  have HNL : Hid (n = l.length) := row_len h
  have hmx := row_max h
  have H : Hid ((kRow kInt).is false w S [.slice a n c] l) := h
  have HC : Hid (l.contains x = decide (x ∈ l)) := by show _ = _; rw [Bool.eq_iff_iff, List.contains_iff_mem, decide_eq_true_eq]
  clear h
  go_enter Try.func74, Try.ntmps74
  go_wp2_with fail
  go_loopw [9] (fun iv wr => ∃ (k : Nat), k ≤ n ∧ iv = .int .i64 k ∧ Hid (x ∉ l.take k) ∧ wr = w) (fun iv _ => n - (intOf iv).toNat)
  case atStart => exact ⟨0, Nat.zero_le _, rfl, (by simp : x ∉ l.take 0), rfl⟩
  case round =>
    obtain ⟨k, hk, rfl, HI, rfl⟩ := hrel
    by_cases hlt : k < n
    · obtain ⟨y, hy⟩ : ∃ y, l[k]? = some y := ⟨_, List.getElem?_eq_getElem (by rw [← HNL.out]; exact hlt)⟩
      obtain ⟨b, off, rfl, hb, _, A0⟩ := rowI_at H.out hy
      have i0 : (0 : Int) ≤ (k : Int) := by omega
      have i1 : (k : Int) < (n : Int) := by omega
      have HY : Hid (l[k]? = some y) := hy
      clear hy
      by_cases hxs : y = x
      · have HF : Hid (l.contains x = true) := by show _ = _; rw [HC.out]; exact decide_eq_true (hxs ▸ List.mem_of_getElem? HY.out)
        subst hxs
        go_wp2
        go_ret
        rw [HF.out]
        exact ⟨rfl, rfl⟩
      · have HI2 : Hid (x ∉ l.take (k + 1)) := by
          show ¬ _
          rw [List.take_add_one, HY.out]
          intro h
          rcases List.mem_append.1 h with h | h
          · exact HI.out h
          · simp at h; exact hxs h.symm
        have heq : (y == x) = false := by simpa using hxs
        go_wp2
        go_roundw
        case rel => exact ⟨k + 1, by omega, by go_num, HI2, trivial⟩
        case measure => simp [intOf]; omega
    · have HF : Hid (l.contains x = false) := by
        have := HI.out
        rw [show k = l.length by rw [← HNL.out]; omega, List.take_length] at this
        show _ = _
        rw [HC.out]
        exact decide_eq_false this
      go_wp2
      go_ret
      rw [HF.out]
      exact ⟨rfl, rfl⟩
set_option maxRecDepth 100000 in
set_option maxHeartbeats 2000000 in
theorem specAlwaysMeet_k (x0 : List Int) (a0 : Option Addr) (n0 c0 : Nat) (S0 : Nat → Prop) (x1 : List Int) (a1 : Option Addr) (n1 c1 : Nat) (S1 : Nat → Prop) (x2 : List Int) (a2 : Option Addr) (n2 c2 : Nat) (S2 : Nat → Prop) (w : World) (h0 : (kRow kInt).is false w S0 [.slice a0 n0 c0] x0) (z0 : (kRow kInt).sz x0 ≤ 2 ^ 20) (h1 : (kRow kInt).is false w S1 [.slice a1 n1 c1] x1) (z1 : (kRow kInt).sz x1 ≤ 2 ^ 20) (h2 : (kRow kInt).is false w S2 [.slice a2 n2 c2] x2) (z2 : (kRow kInt).sz x2 ≤ 2 ^ 20) :
    Calls Try.prog 40 #[.slice a0 n0 c0, .slice a1 n1 c1, .slice a2 n2 c2] w (RAlwaysMeet x0 x1 x2 w) := by
  have HN2 : Hid (n2 = x2.length) := row_len h2
  have HN0 : Hid (n0 = x0.length) := row_len h0
  have hm0 := row_max h0
  have hm2 : n2 ≤ 2 ^ 20 := by rw [HN2.out]; have : x2.length + sums kInt.sz x2 ≤ 2 ^ 20 := z2; omega
  have H0 : Hid ((kRow kInt).is false w S0 [.slice a0 n0 c0] x0) := h0
  have H1 : Hid ((kRow kInt).is false w S1 [.slice a1 n1 c1] x1) := h1
  have HR0 := some14_k x0 a0 n0 c0 S0 n2 w h0 (by omega)
  have HR1 := some14_k x1 a1 n1 c1 S1 n2 w h1 (by omega)
  have HHA : Hid (∀ k, Calls Try.prog 74 #[.slice a1 n1 c1, .int .i64 k] w fun e w' => e = .returned (.bool (x1.contains k)) ∧ w' = w) := fun k => hasI_k x1 a1 n1 c1 S1 k w h1
  clear h0 h1 h2 z0 z1 z2
  have HNO : Hid (¬ (n2 ≤ 7 ∧ someOk x0 n2 = true ∧ someOk x1 n2 = true) → fAlwaysMeet x0 x1 x2 = (false, false)) := fun h => meet_no fun g => h (by rw [HN2.out]; exact g)
  have HYES : Hid (n2 ≤ 7 → someOk x0 n2 = true → someOk x1 n2 = true → fAlwaysMeet x0 x1 x2 = (x0.any fun k => x1.contains k, true)) := fun h h' h'' => meet_yes (by rw [← HN2.out]; exact ⟨h, h', h''⟩)
  go_enter Try.func40, Try.ntmps40
  cases q0 : someOk x0 n2 with
  | false =>
    have HF2 : Hid (fAlwaysMeet x0 x1 x2 = (false, false)) := HNO.out fun g => by rw [q0] at g; cases g.2.1
    rw [q0] at HR0
    clear HNO HYES
    go_wp2_with fail
    refine HR0.mono ?_
    rintro e w2 ⟨rfl, e2⟩
    rw [e2]
    clear e2
    go_wp2
    refine bodyPost_ret (v := .tuple #[.bool false, .bool false]) (by simp [results, Try.results40, go_sem]) rfl ?_
    unfold RAlwaysMeet
    rw [HF2.out]
    exact ⟨rfl, Below.refl _ _⟩
  | true =>
    rw [q0] at HR0
    cases q1 : someOk x1 n2 with
    | false =>
      have HF2 : Hid (fAlwaysMeet x0 x1 x2 = (false, false)) := HNO.out fun g => by rw [q1] at g; cases g.2.2
      rw [q1] at HR1
      clear HNO HYES
      go_wp2_with fail
      refine HR0.mono ?_
      rintro e w2 ⟨rfl, e2⟩
      rw [e2]
      clear e2 HR0
      go_wp2_with fail
      refine HR1.mono ?_
      rintro e w2 ⟨rfl, e2⟩
      rw [e2]
      clear e2 HR1
      go_wp2
      refine bodyPost_ret (v := .tuple #[.bool false, .bool false]) (by simp [results, Try.results40, go_sem]) rfl ?_
      unfold RAlwaysMeet
      rw [HF2.out]
      exact ⟨rfl, Below.refl _ _⟩
    | true =>
      rw [q1] at HR1
      by_cases c7 : n2 ≤ 7
      · have HF2 : Hid (fAlwaysMeet x0 x1 x2 = (x0.any fun k => x1.contains k, true)) := HYES.out c7 q0 q1
        have k7 : (n2 : Int) ≤ 7 := by omega
        clear HNO HYES q0 q1
        go_wp2_with fail
        refine HR0.mono ?_
        rintro e w2 ⟨rfl, e2⟩
        rw [e2]
        clear e2 HR0
        go_wp2_with fail
        refine HR1.mono ?_
        rintro e w2 ⟨rfl, e2⟩
        rw [e2]
        clear e2 HR1
        go_wp2_with fail
        go_loopw [29] (fun iv wr => ∃ (j : Nat), j ≤ n0 ∧ iv = .int .i64 j ∧ Hid (((x0.take j).any fun k => x1.contains k) = false) ∧ wr = w) (fun iv _ => n0 - (intOf iv).toNat)
        case atStart => exact ⟨0, Nat.zero_le _, rfl, rfl, rfl⟩
        case round =>
          obtain ⟨j, hj, rfl, HI, rfl⟩ := hrel
          by_cases hlt : j < n0
          · obtain ⟨y, hy⟩ : ∃ y, x0[j]? = some y := ⟨_, List.getElem?_eq_getElem (by rw [← HN0.out]; exact hlt)⟩
            obtain ⟨b, off, rfl, hb, _, A0⟩ := rowI_at H0.out hy
            have i0 : (0 : Int) ≤ (j : Int) := by omega
            have i1 : (j : Int) < (n0 : Int) := by omega
            have HY : Hid (x0[j]? = some y) := hy
            have hcl := HHA.out y
            clear hy
            cases hc : x1.contains y with
            | true =>
              rw [hc] at hcl
              have HF3 : Hid (fAlwaysMeet x0 x1 x2 = (true, true)) := by show _ = _; rw [HF2.out, List.any_eq_true.2 ⟨y, List.mem_of_getElem? HY.out, hc⟩]
              go_wp2_with fail
              refine hcl.mono ?_
              rintro e w2 ⟨rfl, e2⟩
              rw [e2]
              clear e2
              go_wp2
              refine bodyPost_ret (v := .tuple #[.bool true, .bool true]) (by simp [results, Try.results40, go_sem]) rfl ?_
              unfold RAlwaysMeet
              rw [HF3.out]
              exact ⟨rfl, Below.refl _ _⟩
            | false =>
              rw [hc] at hcl
              have HI2 : Hid (((x0.take (j + 1)).any fun k => x1.contains k) = false) := by
                show _ = _
                rw [List.take_add_one, HY.out, List.any_append, HI.out]
                simp only [Option.toList_some, List.any_cons, List.any_nil, hc, Bool.or_false]
              go_wp2_with fail
              refine hcl.mono ?_
              rintro e w2 ⟨rfl, e2⟩
              rw [e2]
              clear e2
              go_wp2
              go_roundw
              case rel => exact ⟨j + 1, by omega, by go_num, HI2, trivial⟩
              case measure => simp [intOf]; omega
          · have HF3 : Hid (fAlwaysMeet x0 x1 x2 = (false, true)) := by
              have := HI.out
              rw [show j = x0.length by rw [← HN0.out]; omega, List.take_length] at this
              show _ = _
              rw [HF2.out, this]
            go_wp2
            refine bodyPost_ret (v := .tuple #[.bool false, .bool true]) (by simp [results, Try.results40, go_sem]) rfl ?_
            unfold RAlwaysMeet
            rw [HF3.out]
            exact ⟨rfl, Below.refl _ _⟩
      · have HF2 : Hid (fAlwaysMeet x0 x1 x2 = (false, false)) := HNO.out fun g => c7 g.1
        have k7 : (7 : Int) < (n2 : Int) := by omega
        clear HNO HYES q0 q1
        go_wp2_with fail
        refine HR0.mono ?_
        rintro e w2 ⟨rfl, e2⟩
        rw [e2]
        clear e2 HR0
        go_wp2_with fail
        refine HR1.mono ?_
        rintro e w2 ⟨rfl, e2⟩
        rw [e2]
        clear e2 HR1
        go_wp2
        refine bodyPost_ret (v := .tuple #[.bool false, .bool false]) (by simp [results, Try.results40, go_sem]) rfl ?_
        unfold RAlwaysMeet
        rw [HF2.out]
        exact ⟨rfl, Below.refl _ _⟩
end Go.Proofs.Ytbkdkiodkcpbeaa
