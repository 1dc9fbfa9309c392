/- The specification's first few, and one put to its place. No condition but that they fit in memory. -/
import Derived.Test.YtikgcgfigcolmaaRpS
import Derived.RangeFuncNested
namespace Go.Proofs.Ytikgcgfigcolmaa
open Go.RowKit
set_option linter.unusedVariables false

theorem own_empS (w : World) (B : Nat) (hB : B ≤ w.heap.size) : OwnL scC 60 2 (w.alloc (.cells #[] 60)) B (.slice (some ⟨w.heap.size, 0, none⟩) 0 0) [] :=
  ⟨by simp, .inr ⟨w.heap.size, 0, #[], rfl, hB, World.alloc_heap_new w _, Nat.le_refl _, Nat.zero_le _, by simp, by simp⟩⟩

/-- A row copied. -/
def RScs (l : List DScored) (w : World) (e : Ending) (w' : World) : Prop := ∃ (a : Option Addr) (n c : Nat), e = .returned (.slice a n c) ∧ (kRow kScored).is true w' (fun k => w.heap.size ≤ k) [.slice a n c] l ∧ Below w.heap.size w w'

set_option maxRecDepth 100000 in
set_option maxHeartbeats 4000000 in
theorem l11First_k (l : List DScored) (a : Option Addr) (n c : Nat) (S : Nat → Prop) (k : Nat) (w : World) (h : (kRow kScored).is true w S [.slice a n c] l) (hl : l.length ≤ 2 ^ 20) (hk : k ≤ 60) :
    Calls Try.prog 69 #[.slice a n c, .int .i64 k] w (RScs (l.take k) w) := by
  have hnl := row_len h
  have hnc : n ≤ c := by obtain ⟨_, _, e, _, h⟩ := row_form h; simp only [List.cons.injEq, Value.slice.injEq, and_true] at e; have := h rfl; omega
  have n20 : n ≤ 2 ^ 20 := by omega
  have HNL : Hid (n = l.length) := hnl
  have HI : Hid (∀ x ∈ l, IntOk x.1 ∧ IntOk x.2) := row_ints h
  have H : Hid ((kRow kScored).is false w S [.slice a n c] l) := Kd.read _ h
  have HOE : Hid (OwnL scC 60 2 (w.alloc (.cells #[] 60)) w.heap.size (.slice (some ⟨w.heap.size, 0, none⟩) 0 0) []) := own_empS w w.heap.size (Nat.le_refl _)
  clear h hnl hl
  by_cases c1 : (k : Int) < (n : Int)
  · have HR : Hid ((kRow kScored).is false (w.alloc (.cells #[] 60)) S [.slice a k c] (l.take k)) := Kd.below (row_take H.out (by omega)) (below_a1r _ _)
    have k0 : ¬ (k : Int) < 0 := by omega
    have kc : (k : Int) ≤ (c : Int) := by omega
    go_enter Try.func69, Try.ntmps69
    go_wp2_with (first | (at_builtin; go_loud (refine app_scs rfl _ _ rfl w.heap.size _ [] rfl HOE.out a k c S (l.take k) rfl HR.out (by simp; omega) (by simp) ?_)))
    intro v3 w3 ho3 hb3 _
    obtain ⟨a3, c3, rfl, _⟩ := ho3.form
    have HO : Hid (OwnL scC 60 2 w3 w.heap.size (.slice a3 (l.take k).length c3) (l.take k)) := ho3
    have HB : Hid (Below w.heap.size w w3) := (below_a1r _ _).trans hb3
    clear ho3 hb3
    go_wp2
    go_ret
    exact ⟨a3, _, c3, rfl, own_scs HO.out (by simp; omega) (fun x hx => HI.out x (List.mem_of_mem_take hx)), HB.out⟩
  · have HR : Hid ((kRow kScored).is false (w.alloc (.cells #[] 60)) S [.slice a n c] l) := Kd.below H.out (below_a1r _ _)
    have HT : Hid (l.take k = l) := by show _ = _; rw [List.take_of_length_le (by rw [← HNL.out]; omega)]
    go_enter Try.func69, Try.ntmps69
    go_wp2_with (first | (at_builtin; go_loud (refine app_scs rfl _ _ rfl w.heap.size _ [] rfl HOE.out a n c S l rfl HR.out (by rw [← HNL.out]; simp; omega) (by simp) ?_)))
    intro v3 w3 ho3 hb3 _
    obtain ⟨a3, c3, rfl, _⟩ := ho3.form
    have HO : Hid (OwnL scC 60 2 w3 w.heap.size (.slice a3 l.length c3) l) := ho3
    have HB : Hid (Below w.heap.size w w3) := (below_a1r _ _).trans hb3
    clear ho3 hb3
    go_wp2
    go_ret
    unfold RScs
    rw [HT.out]
    exact ⟨a3, _, c3, rfl, own_scs HO.out (by rw [← HNL.out]; omega) HI.out, HB.out⟩

/-- What putting one to its place answers. -/
def RPut (l : List DScored) (x : DScored) (S : Nat → Prop) (w : World) (e : Ending) (w' : World) : Prop := ∃ (a : Option Addr) (n c : Nat), e = .returned (.slice a n c) ∧ (kRow kScored).is true w' (fun k => S k ∨ w.heap.size ≤ k) [.slice a n c] (putL l x) ∧ Below w.heap.size w w'

set_option maxRecDepth 100000 in
set_option maxHeartbeats 8000000 in
theorem l11Put_k (l : List DScored) (a : Option Addr) (n c : Nat) (S : Nat → Prop) (i s : Int) (w : World) (h : (kRow kScored).is true w S [.slice a n c] l) (hl : l.length ≤ 2 ^ 20) (hi : IntOk i) (hs : IntOk s) :
    Calls Try.prog 67 #[.slice a n c, .agg #[.int .i64 i, .int .i64 s]] w (RPut l (i, s) S w) := by
  have hnl := row_len h
  have hnc : n ≤ c := by obtain ⟨_, _, e, _, h⟩ := row_form h; simp only [List.cons.injEq, Value.slice.injEq, and_true] at e; have := h rfl; omega
  have n20 : n ≤ 2 ^ 20 := by omega
  have HNL : Hid (n = l.length) := hnl
  have HI : Hid (∀ x ∈ l, IntOk x.1 ∧ IntOk x.2) := row_ints h
  have HOW : Hid ((kRow kScored).is true w S [.slice a n c] l) := h
  have H : Hid ((kRow kScored).is false w S [.slice a n c] l) := Kd.read _ h
  have HIS : Hid (IntOk i ∧ IntOk s) := ⟨hi, hs⟩
  obtain ⟨q, hq⟩ : ∃ q, q = noId l i := ⟨_, rfl⟩
  have HQ : Hid (noId (l.drop 0) i = q) := hq.symm
  have HP : Hid (putL l (i, s) = if q = true then insL l (i, s) else l) := by show _ = _; unfold putL; rw [hq]
  clear h hnl hl hi hs hq
  go_enter Try.func67, Try.ntmps67
  go_wp2_with fail
  obtain ⟨W0, hW0⟩ : ∃ W0, W0 = w.alloc (.cells #[.int .i64 i, .int .i64 s] 60) := ⟨_, rfl⟩
  rw [← hW0]
  have X0 : W0.cell? ⟨w.heap.size, 0, none⟩ = some (.int .i64 i) := by rw [hW0]; simp [go_sem]
  have X1 : W0.cell? ⟨w.heap.size, 1, none⟩ = some (.int .i64 s) := by rw [hW0]; simp [go_sem]
  have HBW : Hid (Below w.heap.size w W0) := by rw [hW0]; exact below_a1r _ _
  have zW : w.heap.size < W0.heap.size := by rw [hW0]; simp
  clear hW0
  go_loopw [11] (fun iv wr => ∃ (k : Nat), k ≤ n ∧ iv = .int .i64 k ∧ Hid (noId (l.drop k) i = q) ∧ Below W0.heap.size W0 wr) (fun iv _ => n - (intOf iv).toNat)
  case atStart => exact ⟨0, Nat.zero_le _, rfl, HQ, Below.refl _ _⟩
  case round =>
    obtain ⟨k, hk, rfl, HJ, hnx⟩ := hrel
    have zw := hnx.size
    have HBR : Hid (Below w.heap.size w wr) := HBW.out.trans (hnx.mono HBW.out.size)
    have Y0 := cell_later hnx X0
    have Y1 := cell_later hnx X1
    by_cases hlt : k < n
    · obtain ⟨⟨u, v⟩, hx⟩ : ∃ x, l[k]? = some x := ⟨_, List.getElem?_eq_getElem (by rw [← HNL.out]; exact hlt)⟩
      obtain ⟨b, off, B, C, rfl, hb, _, hi, _, hc⟩ := row_at (Kd.below H.out HBR.out) hx
      obtain ⟨rfl, g0, g1⟩ := kScored_open hi
      have A0 : wr.cell? ⟨b, off + k * 2, none⟩ = some (.int .i64 u) := (hc 0 _ rfl).1
      have A1 : wr.cell? ⟨b, off + k * 2 + 1, none⟩ = some (.int .i64 v) := (hc 1 _ rfl).1
      have i0 : (0 : Int) ≤ (k : Int) := by omega
      have i1 : (k : Int) < (n : Int) := by omega
      have Y2 := cell_later (below_a1r wr (.cells #[.int .i64 u, .int .i64 v] 60)) Y0
      have HJ1 : Hid ((!decide (u = i) && noId (l.drop (k + 1)) i) = q) := by have := HJ.out; rw [noId_drop hx] at this; exact this
      clear hc hi hx HJ
      by_cases hui : u = i
      · have HF : Hid (putL l (i, s) = l) := by have h1 := HJ1.out; rw [decide_eq_true hui] at h1; show _ = _; rw [HP.out, ← h1]; rfl
        subst hui
        clear HJ1
        go_wp2
        go_ret
        unfold RPut
        rw [HF.out]
        exact ⟨_, n, c, rfl, Kd.mono (Kd.below HOW.out (HBR.out.alloc (by have := HBR.out.size; omega) _)) (fun k hk => .inl hk), HBR.out.alloc (by have := HBR.out.size; omega) _⟩
      · have HJ2 : Hid (noId (l.drop (k + 1)) i = q) := by have := HJ1.out; rw [decide_eq_false hui] at this; exact this
        have hui' : (u == i) = false := by simpa using hui
        clear HJ1
        go_wp2
        go_roundw
        case rel => exact ⟨k + 1, by omega, by go_num, HJ2, hnx.alloc (by omega) _⟩
        case measure => simp [intOf]; omega
    · have i1 : ¬ (k : Int) < (n : Int) := by omega
      have HE : Hid (putL l (i, s) = insL l (i, s)) := by
        have h1 := HJ.out
        rw [show k = l.length by rw [← HNL.out]; omega, List.drop_length, noId] at h1
        show _ = _
        rw [HP.out, ← h1]
        rfl
      clear HJ HP
      obtain ⟨W2, hW2⟩ : ∃ W2, W2 = wr := ⟨_, rfl⟩
      rw [← hW2] at HBR Y0 Y1
      have HW2 : Hid (W2 = wr) := hW2
      clear hW2
      obtain ⟨P, hP⟩ : ∃ P, P = posL l (i, s) := ⟨_, rfl⟩
      have HPP : Hid (0 + posL (l.drop 0) (i, s) = P) := by show _ = _; rw [hP, List.drop_zero, Nat.zero_add]
      have HIN : Hid (putL l (i, s) = l.take P ++ (i, s) :: l.drop P) := by show _ = _; rw [HE.out, hP]; exact insL_is l (i, s)
      have hPn : P ≤ n := by rw [hP, HNL.out]; exact posL_le _ _
      clear hP HE
      go_wp2_with fail
      rw [← HW2.out]
      clear HW2 hnx zw
      go_loopw [7] (fun kv wq => ∃ (p : Nat), p ≤ n ∧ kv = .int .i64 p ∧ Hid (p + posL (l.drop p) (i, s) = P) ∧ Below W2.heap.size W2 wq) (fun kv _ => n - (intOf kv).toNat)
      case atStart => exact ⟨0, Nat.zero_le _, rfl, HPP, Below.refl _ _⟩
      case round =>
        obtain ⟨p, hp, rfl, HK, hnq⟩ := hrel
        have HBQ : Hid (Below w.heap.size w wr) := HBR.out.trans (hnq.mono HBR.out.size)
        have Z0 := cell_later hnq Y0
        have Z1 := cell_later hnq Y1
        have hne := belowOf_ne wr
        have U0 : ∀ p : BelowOf wr, p.v.cell? ⟨w.heap.size, 0, none⟩ = some (.int .i64 i) := BelowOf.cell Z0
        have U1 : ∀ p : BelowOf wr, p.v.cell? ⟨w.heap.size, 1, none⟩ = some (.int .i64 s) := BelowOf.cell Z1
        by_cases hpl : p < n
        · obtain ⟨⟨u, v⟩, hx⟩ : ∃ x, l[p]? = some x := ⟨_, List.getElem?_eq_getElem (by rw [← HNL.out]; exact hpl)⟩
          obtain ⟨b, off, B, C, hab, hb, _, hi, _, hc⟩ := row_at (Kd.below H.out HBQ.out) hx
          obtain ⟨rfl, g0, g1⟩ := kScored_open hi
          have U2 : ∀ q : BelowOf wr, q.v.cell? ⟨b, off + p * 2, none⟩ = some (.int .i64 u) := BelowOf.cell (hc 0 _ rfl).1
          have U3 : ∀ q : BelowOf wr, q.v.cell? ⟨b, off + p * 2 + 1, none⟩ = some (.int .i64 v) := BelowOf.cell (hc 1 _ rfl).1
          have HLS : Hid (∀ w, Calls Try.prog 71 #[.agg #[.int .i64 u, .int .i64 v], .agg #[.int .i64 i, .int .i64 s]] w fun e w' => e = .returned (.bool (ahd (u, v) (i, s))) ∧ Below w.heap.size w w') := l11Less_k u v i s
          have HK1 : Hid (p + (if ahd (u, v) (i, s) = true then posL (l.drop (p + 1)) (i, s) + 1 else 0) = P) := by have := HK.out; rw [posL_drop hx] at this; exact this
          have kpb : decide (p < n) = true := decide_eq_true hpl
          have i0 : (0 : Int) ≤ (p : Int) := by omega
          have i1 : (p : Int) < (n : Int) := by omega
          have HAB : Hid (a = some ⟨b, off, none⟩) := hab
          clear hc hi hx hb hab
          cases hah : ahd (u, v) (i, s) with
          | true =>
            have HK2 : Hid (p + 1 + posL (l.drop (p + 1)) (i, s) = P) := by have := HK1.out; rw [hah, if_pos rfl] at this; show _ = _; omega
            rw [hah] at HLS
            clear hah HK1 HK
            go_wp2_with fail
            rw [HAB.out]
            refine region_below (by kernel_rfl) (by kernel_rfl) ?_
            repeat (go_big_quiet_step (first | (go_at_call 71; exact BelowOf.calls (HLS.out _))))
            refine wpQuiet_nil (belowOf_all ?_)
            intro w2 hb2
            rw [← HAB.out]
            go_wp2
            go_roundw
            case rel => exact ⟨p + 1, by omega, by go_num, HK2, hnq.trans (hb2.mono hnq.size)⟩
            case measure => simp [intOf]; omega
          | false =>
            have HEP : Hid (p = P) := by have := HK1.out; rw [hah] at this; show _ = _; simpa using this
            rw [hah] at HLS
            clear hah HK1
            go_wp2_with fail
            rw [HAB.out]
            refine region_below (by kernel_rfl) (by kernel_rfl) ?_
            repeat (go_big_quiet_step (first | (go_at_call 71; exact BelowOf.calls (HLS.out _))))
            refine wpQuiet_nil (belowOf_all ?_)
            intro w2 hb2
            rw [← HAB.out]
            clear U2 U3 kpb HAB HLS
            have HB2 : Hid (Below w.heap.size w w2) := HBQ.out.trans (hb2.mono HBQ.out.size)
            have V0 := cell_later hb2 Z0
            have V1 := cell_later hb2 Z1
            have HR1 : Hid ((kRow kScored).is false w2 S [.slice a p c] (l.take p)) := row_take (Kd.below H.out HB2.out) hp
            have z2 : w.heap.size ≤ w2.heap.size := HB2.out.size
            have p0 : ¬ (p : Int) < 0 := by omega
            have pc : (p : Int) ≤ (c : Int) := by omega
            have pn : (p : Int) ≤ (n : Int) := by omega
            clear hb2 U0 U1 hne HK Z0 Z1
            go_wp2_with (first | (at_builtin; go_loud (refine app_scs rfl _ _ rfl w2.heap.size _ [] rfl (OwnL.nil _ _ _ _ _) a p c S (l.take p) rfl HR1.out (by simp; omega) (Nat.le_refl _) ?_)))
            intro v3 w3 ho3 hb3 hg3
            obtain ⟨a3, c3, rfl, _⟩ := ho3.form
            have HO3 : Hid (OwnL scC 60 2 w3 w2.heap.size (.slice a3 (l.take p).length c3) (l.take p)) := ho3
            have HB3 : Hid (Below w2.heap.size w2 w3) := hb3
            have zlt : w.heap.size < w2.heap.size := by have := World.block_lt_of_cell? _ _ V0; exact this
            have T0 : w3.cell? ⟨w.heap.size, 0, none⟩ = some (.int .i64 i) := (hb3.cell zlt).trans V0
            have T1 : w3.cell? ⟨w.heap.size, 1, none⟩ = some (.int .i64 s) := (hb3.cell zlt).trans V1
            have z3 := hb3.size
            have hlp : (l.take p).length = p := by rw [List.length_take, ← HNL.out]; omega
            rw [hlp] at HO3 ⊢
            clear ho3 hb3 hg3 hlp V0 V1
            go_wp2_with (first | (at_builtin; go_loud (refine app_sc rfl _ _ rfl w2.heap.size _ (l.take p) rfl (OwnL.below HO3.out (below_a1r _ _)) _ (i, s) rfl (by simp [go_sem]) (by simp [go_sem]) (by rw [List.length_take]; omega) (by simp; omega) ?_)))
            intro v4 w4 ho4 hb4 hg4
            obtain ⟨a4, c4, rfl, _⟩ := ho4.form
            have hlp4 : (l.take p ++ [(i, s)]).length = p + 1 := by rw [List.length_append, List.length_take, ← HNL.out]; simp; omega
            have HO4 : Hid (OwnL scC 60 2 w4 w2.heap.size (.slice a4 (p + 1) c4) (l.take p ++ [(i, s)])) := by have := ho4; rw [hlp4] at this; exact this
            have HB4 : Hid (Below w2.heap.size w2 w4) := (HB3.out.alloc z3 _).trans hb4
            have z4 : w2.heap.size ≤ w4.heap.size := HB4.out.size
            rw [hlp4]
            clear ho4 hb4 hg4 hlp4 T0 T1
            have HB4w : Hid (Below w.heap.size w w4) := HB2.out.trans (HB4.out.mono z2)
            by_cases hpn : p < n
            · obtain ⟨x, hx⟩ : ∃ x, l[0]? = some x := ⟨_, List.getElem?_eq_getElem (by rw [← HNL.out]; omega)⟩
              obtain ⟨b9, off9, B9, C9, hab9, _⟩ := row_at H.out hx
              have HR5 : Hid ((kRow kScored).is false w4 S [.slice (some ⟨b9, off9 + p * 2, none⟩) (n - p) (c - p)] (l.drop p)) := row_drop (by rw [← hab9]; exact Kd.below H.out HB4w.out) hp
              subst hab9
              have hpc : (p : Int) < (c : Int) := by omega
              clear hx
              go_wp2_with (first | (at_builtin; go_loud (refine app_scs rfl _ _ rfl w2.heap.size _ (l.take p ++ [(i, s)]) rfl HO4.out _ _ _ S (l.drop p) rfl HR5.out (by simp only [List.length_append, List.length_take, List.length_drop, ← HNL.out]; simp; omega) z4 ?_)))
              intro v5 w5 ho5 hb5 hg5
              obtain ⟨a5, c5, rfl, _⟩ := ho5.form
              have HO5 : Hid (OwnL scC 60 2 w5 w2.heap.size (.slice a5 (l.take p ++ (i, s) :: l.drop p).length c5) (l.take p ++ (i, s) :: l.drop p)) := ho5
              have HB5 : Hid (Below w.heap.size w w5) := HB4w.out.trans (hb5.mono z2)
              obtain ⟨n5, hn5⟩ : ∃ n5, n5 = (l.take p ++ (i, s) :: l.drop p).length := ⟨_, rfl⟩
              have HN5 : Hid (n5 = (l.take p ++ (i, s) :: l.drop p).length) := hn5
              rw [← hn5] at HO5 ⊢
              clear ho5 hb5 hg5 hn5
              go_wp2
              go_ret
              unfold RPut
              have e : putL l (i, s) = l.take p ++ (i, s) :: l.drop p := by rw [HIN.out, HEP.out]
              rw [e]
              refine ⟨a5, n5, c5, rfl, Kd.mono (own_scs HO5.out ?_ fun x hx => ?_) (fun k hk => .inr (Nat.le_trans z2 hk)), HB5.out⟩
              · simp only [List.length_append, List.length_take, List.length_drop, List.length_cons, ← HNL.out]; omega
              · rcases List.mem_append.1 hx with h1 | h1
                · exact HI.out x (List.mem_of_mem_take h1)
                · rcases List.mem_cons.1 h1 with rfl | h1
                  · exact HIS.out
                  · exact HI.out x (List.mem_of_mem_drop h1)
            · have HR6 : Hid (∀ ra c', (kRow kScored).is false w4 S [.slice ra (n - p) c'] (l.drop p)) := fun ra c' => by rw [List.drop_eq_nil_of_le (by rw [← HNL.out]; omega), show n - p = 0 by omega]; exact row_nil _ _ _ _ _ _
              by_cases hpc : (p : Int) < (c : Int)
              · cases a with
                | none =>
                  go_wp2_with (first | (at_builtin; go_loud (refine app_scs rfl _ _ rfl w2.heap.size _ (l.take p ++ [(i, s)]) rfl HO4.out _ _ _ S (l.drop p) rfl (HR6.out _ _) (by simp only [List.length_append, List.length_take, List.length_drop, ← HNL.out]; simp; omega) z4 ?_)))
                  intro v5 w5 ho5 hb5 hg5
                  obtain ⟨a5, c5, rfl, _⟩ := ho5.form
                  have HO5 : Hid (OwnL scC 60 2 w5 w2.heap.size (.slice a5 (l.take p ++ (i, s) :: l.drop p).length c5) (l.take p ++ (i, s) :: l.drop p)) := ho5
                  have HB5 : Hid (Below w.heap.size w w5) := HB4w.out.trans (hb5.mono z2)
                  obtain ⟨n5, hn5⟩ : ∃ n5, n5 = (l.take p ++ (i, s) :: l.drop p).length := ⟨_, rfl⟩
                  have HN5 : Hid (n5 = (l.take p ++ (i, s) :: l.drop p).length) := hn5
                  rw [← hn5] at HO5 ⊢
                  clear ho5 hb5 hg5 hn5
                  go_wp2
                  go_ret
                  unfold RPut
                  have e : putL l (i, s) = l.take p ++ (i, s) :: l.drop p := by rw [HIN.out, HEP.out]
                  rw [e]
                  refine ⟨a5, n5, c5, rfl, Kd.mono (own_scs HO5.out ?_ fun x hx => ?_) (fun k hk => .inr (Nat.le_trans z2 hk)), HB5.out⟩
                  · simp only [List.length_append, List.length_take, List.length_drop, List.length_cons, ← HNL.out]; omega
                  · rcases List.mem_append.1 hx with h1 | h1
                    · exact HI.out x (List.mem_of_mem_take h1)
                    · rcases List.mem_cons.1 h1 with rfl | h1
                      · exact HIS.out
                      · exact HI.out x (List.mem_of_mem_drop h1)
                | some ad =>
                  go_wp2_with (first | (at_builtin; go_loud (refine app_scs rfl _ _ rfl w2.heap.size _ (l.take p ++ [(i, s)]) rfl HO4.out _ _ _ S (l.drop p) rfl (HR6.out _ _) (by simp only [List.length_append, List.length_take, List.length_drop, ← HNL.out]; simp; omega) z4 ?_)))
                  intro v5 w5 ho5 hb5 hg5
                  obtain ⟨a5, c5, rfl, _⟩ := ho5.form
                  have HO5 : Hid (OwnL scC 60 2 w5 w2.heap.size (.slice a5 (l.take p ++ (i, s) :: l.drop p).length c5) (l.take p ++ (i, s) :: l.drop p)) := ho5
                  have HB5 : Hid (Below w.heap.size w w5) := HB4w.out.trans (hb5.mono z2)
                  obtain ⟨n5, hn5⟩ : ∃ n5, n5 = (l.take p ++ (i, s) :: l.drop p).length := ⟨_, rfl⟩
                  have HN5 : Hid (n5 = (l.take p ++ (i, s) :: l.drop p).length) := hn5
                  rw [← hn5] at HO5 ⊢
                  clear ho5 hb5 hg5 hn5
                  go_wp2
                  go_ret
                  unfold RPut
                  have e : putL l (i, s) = l.take p ++ (i, s) :: l.drop p := by rw [HIN.out, HEP.out]
                  rw [e]
                  refine ⟨a5, n5, c5, rfl, Kd.mono (own_scs HO5.out ?_ fun x hx => ?_) (fun k hk => .inr (Nat.le_trans z2 hk)), HB5.out⟩
                  · simp only [List.length_append, List.length_take, List.length_drop, List.length_cons, ← HNL.out]; omega
                  · rcases List.mem_append.1 hx with h1 | h1
                    · exact HI.out x (List.mem_of_mem_take h1)
                    · rcases List.mem_cons.1 h1 with rfl | h1
                      · exact HIS.out
                      · exact HI.out x (List.mem_of_mem_drop h1)
              · cases a with
                | none =>
                  go_wp2_with (first | (at_builtin; go_loud (refine app_scs rfl _ _ rfl w2.heap.size _ (l.take p ++ [(i, s)]) rfl HO4.out _ _ _ S (l.drop p) rfl (HR6.out _ _) (by simp only [List.length_append, List.length_take, List.length_drop, ← HNL.out]; simp; omega) z4 ?_)))
                  intro v5 w5 ho5 hb5 hg5
                  obtain ⟨a5, c5, rfl, _⟩ := ho5.form
                  have HO5 : Hid (OwnL scC 60 2 w5 w2.heap.size (.slice a5 (l.take p ++ (i, s) :: l.drop p).length c5) (l.take p ++ (i, s) :: l.drop p)) := ho5
                  have HB5 : Hid (Below w.heap.size w w5) := HB4w.out.trans (hb5.mono z2)
                  obtain ⟨n5, hn5⟩ : ∃ n5, n5 = (l.take p ++ (i, s) :: l.drop p).length := ⟨_, rfl⟩
                  have HN5 : Hid (n5 = (l.take p ++ (i, s) :: l.drop p).length) := hn5
                  rw [← hn5] at HO5 ⊢
                  clear ho5 hb5 hg5 hn5
                  go_wp2
                  go_ret
                  unfold RPut
                  have e : putL l (i, s) = l.take p ++ (i, s) :: l.drop p := by rw [HIN.out, HEP.out]
                  rw [e]
                  refine ⟨a5, n5, c5, rfl, Kd.mono (own_scs HO5.out ?_ fun x hx => ?_) (fun k hk => .inr (Nat.le_trans z2 hk)), HB5.out⟩
                  · simp only [List.length_append, List.length_take, List.length_drop, List.length_cons, ← HNL.out]; omega
                  · rcases List.mem_append.1 hx with h1 | h1
                    · exact HI.out x (List.mem_of_mem_take h1)
                    · rcases List.mem_cons.1 h1 with rfl | h1
                      · exact HIS.out
                      · exact HI.out x (List.mem_of_mem_drop h1)
                | some ad =>
                  go_wp2_with (first | (at_builtin; go_loud (refine app_scs rfl _ _ rfl w2.heap.size _ (l.take p ++ [(i, s)]) rfl HO4.out _ _ _ S (l.drop p) rfl (HR6.out _ _) (by simp only [List.length_append, List.length_take, List.length_drop, ← HNL.out]; simp; omega) z4 ?_)))
                  intro v5 w5 ho5 hb5 hg5
                  obtain ⟨a5, c5, rfl, _⟩ := ho5.form
                  have HO5 : Hid (OwnL scC 60 2 w5 w2.heap.size (.slice a5 (l.take p ++ (i, s) :: l.drop p).length c5) (l.take p ++ (i, s) :: l.drop p)) := ho5
                  have HB5 : Hid (Below w.heap.size w w5) := HB4w.out.trans (hb5.mono z2)
                  obtain ⟨n5, hn5⟩ : ∃ n5, n5 = (l.take p ++ (i, s) :: l.drop p).length := ⟨_, rfl⟩
                  have HN5 : Hid (n5 = (l.take p ++ (i, s) :: l.drop p).length) := hn5
                  rw [← hn5] at HO5 ⊢
                  clear ho5 hb5 hg5 hn5
                  go_wp2
                  go_ret
                  unfold RPut
                  have e : putL l (i, s) = l.take p ++ (i, s) :: l.drop p := by rw [HIN.out, HEP.out]
                  rw [e]
                  refine ⟨a5, n5, c5, rfl, Kd.mono (own_scs HO5.out ?_ fun x hx => ?_) (fun k hk => .inr (Nat.le_trans z2 hk)), HB5.out⟩
                  · simp only [List.length_append, List.length_take, List.length_drop, List.length_cons, ← HNL.out]; omega
                  · rcases List.mem_append.1 hx with h1 | h1
                    · exact HI.out x (List.mem_of_mem_take h1)
                    · rcases List.mem_cons.1 h1 with rfl | h1
                      · exact HIS.out
                      · exact HI.out x (List.mem_of_mem_drop h1)
        · have HEP : Hid (p = P) := by have := HK.out; rw [List.drop_eq_nil_of_le (by rw [← HNL.out]; omega), posL] at this; show _ = _; omega
          have kpb : decide (p < n) = false := decide_eq_false hpl
          go_wp2_with fail
          refine region_below (by kernel_rfl) (by kernel_rfl) ?_
          repeat (go_big_quiet_step (fail))
          refine wpQuiet_nil (belowOf_all ?_)
          intro w2 hb2
          clear kpb
          have HB2 : Hid (Below w.heap.size w w2) := HBQ.out.trans (hb2.mono HBQ.out.size)
          have V0 := cell_later hb2 Z0
          have V1 := cell_later hb2 Z1
          have HR1 : Hid ((kRow kScored).is false w2 S [.slice a p c] (l.take p)) := row_take (Kd.below H.out HB2.out) hp
          have z2 : w.heap.size ≤ w2.heap.size := HB2.out.size
          have p0 : ¬ (p : Int) < 0 := by omega
          have pc : (p : Int) ≤ (c : Int) := by omega
          have pn : (p : Int) ≤ (n : Int) := by omega
          clear hb2 U0 U1 hne HK Z0 Z1
          go_wp2_with (first | (at_builtin; go_loud (refine app_scs rfl _ _ rfl w2.heap.size _ [] rfl (OwnL.nil _ _ _ _ _) a p c S (l.take p) rfl HR1.out (by simp; omega) (Nat.le_refl _) ?_)))
          intro v3 w3 ho3 hb3 hg3
          obtain ⟨a3, c3, rfl, _⟩ := ho3.form
          have HO3 : Hid (OwnL scC 60 2 w3 w2.heap.size (.slice a3 (l.take p).length c3) (l.take p)) := ho3
          have HB3 : Hid (Below w2.heap.size w2 w3) := hb3
          have zlt : w.heap.size < w2.heap.size := by have := World.block_lt_of_cell? _ _ V0; exact this
          have T0 : w3.cell? ⟨w.heap.size, 0, none⟩ = some (.int .i64 i) := (hb3.cell zlt).trans V0
          have T1 : w3.cell? ⟨w.heap.size, 1, none⟩ = some (.int .i64 s) := (hb3.cell zlt).trans V1
          have z3 := hb3.size
          have hlp : (l.take p).length = p := by rw [List.length_take, ← HNL.out]; omega
          rw [hlp] at HO3 ⊢
          clear ho3 hb3 hg3 hlp V0 V1
          go_wp2_with (first | (at_builtin; go_loud (refine app_sc rfl _ _ rfl w2.heap.size _ (l.take p) rfl (OwnL.below HO3.out (below_a1r _ _)) _ (i, s) rfl (by simp [go_sem]) (by simp [go_sem]) (by rw [List.length_take]; omega) (by simp; omega) ?_)))
          intro v4 w4 ho4 hb4 hg4
          obtain ⟨a4, c4, rfl, _⟩ := ho4.form
          have hlp4 : (l.take p ++ [(i, s)]).length = p + 1 := by rw [List.length_append, List.length_take, ← HNL.out]; simp; omega
          have HO4 : Hid (OwnL scC 60 2 w4 w2.heap.size (.slice a4 (p + 1) c4) (l.take p ++ [(i, s)])) := by have := ho4; rw [hlp4] at this; exact this
          have HB4 : Hid (Below w2.heap.size w2 w4) := (HB3.out.alloc z3 _).trans hb4
          have z4 : w2.heap.size ≤ w4.heap.size := HB4.out.size
          rw [hlp4]
          clear ho4 hb4 hg4 hlp4 T0 T1
          have HB4w : Hid (Below w.heap.size w w4) := HB2.out.trans (HB4.out.mono z2)
          by_cases hpn : p < n
          · exact absurd hpn hpl
          · have HR6 : Hid (∀ ra c', (kRow kScored).is false w4 S [.slice ra (n - p) c'] (l.drop p)) := fun ra c' => by rw [List.drop_eq_nil_of_le (by rw [← HNL.out]; omega), show n - p = 0 by omega]; exact row_nil _ _ _ _ _ _
            by_cases hpc : (p : Int) < (c : Int)
            · cases a with
              | none =>
                go_wp2_with (first | (at_builtin; go_loud (refine app_scs rfl _ _ rfl w2.heap.size _ (l.take p ++ [(i, s)]) rfl HO4.out _ _ _ S (l.drop p) rfl (HR6.out _ _) (by simp only [List.length_append, List.length_take, List.length_drop, ← HNL.out]; simp; omega) z4 ?_)))
                intro v5 w5 ho5 hb5 hg5
                obtain ⟨a5, c5, rfl, _⟩ := ho5.form
                have HO5 : Hid (OwnL scC 60 2 w5 w2.heap.size (.slice a5 (l.take p ++ (i, s) :: l.drop p).length c5) (l.take p ++ (i, s) :: l.drop p)) := ho5
                have HB5 : Hid (Below w.heap.size w w5) := HB4w.out.trans (hb5.mono z2)
                obtain ⟨n5, hn5⟩ : ∃ n5, n5 = (l.take p ++ (i, s) :: l.drop p).length := ⟨_, rfl⟩
                have HN5 : Hid (n5 = (l.take p ++ (i, s) :: l.drop p).length) := hn5
                rw [← hn5] at HO5 ⊢
                clear ho5 hb5 hg5 hn5
                go_wp2
                go_ret
                unfold RPut
                have e : putL l (i, s) = l.take p ++ (i, s) :: l.drop p := by rw [HIN.out, HEP.out]
                rw [e]
                refine ⟨a5, n5, c5, rfl, Kd.mono (own_scs HO5.out ?_ fun x hx => ?_) (fun k hk => .inr (Nat.le_trans z2 hk)), HB5.out⟩
                · simp only [List.length_append, List.length_take, List.length_drop, List.length_cons, ← HNL.out]; omega
                · rcases List.mem_append.1 hx with h1 | h1
                  · exact HI.out x (List.mem_of_mem_take h1)
                  · rcases List.mem_cons.1 h1 with rfl | h1
                    · exact HIS.out
                    · exact HI.out x (List.mem_of_mem_drop h1)
              | some ad =>
                go_wp2_with (first | (at_builtin; go_loud (refine app_scs rfl _ _ rfl w2.heap.size _ (l.take p ++ [(i, s)]) rfl HO4.out _ _ _ S (l.drop p) rfl (HR6.out _ _) (by simp only [List.length_append, List.length_take, List.length_drop, ← HNL.out]; simp; omega) z4 ?_)))
                intro v5 w5 ho5 hb5 hg5
                obtain ⟨a5, c5, rfl, _⟩ := ho5.form
                have HO5 : Hid (OwnL scC 60 2 w5 w2.heap.size (.slice a5 (l.take p ++ (i, s) :: l.drop p).length c5) (l.take p ++ (i, s) :: l.drop p)) := ho5
                have HB5 : Hid (Below w.heap.size w w5) := HB4w.out.trans (hb5.mono z2)
                obtain ⟨n5, hn5⟩ : ∃ n5, n5 = (l.take p ++ (i, s) :: l.drop p).length := ⟨_, rfl⟩
                have HN5 : Hid (n5 = (l.take p ++ (i, s) :: l.drop p).length) := hn5
                rw [← hn5] at HO5 ⊢
                clear ho5 hb5 hg5 hn5
                go_wp2
                go_ret
                unfold RPut
                have e : putL l (i, s) = l.take p ++ (i, s) :: l.drop p := by rw [HIN.out, HEP.out]
                rw [e]
                refine ⟨a5, n5, c5, rfl, Kd.mono (own_scs HO5.out ?_ fun x hx => ?_) (fun k hk => .inr (Nat.le_trans z2 hk)), HB5.out⟩
                · simp only [List.length_append, List.length_take, List.length_drop, List.length_cons, ← HNL.out]; omega
                · rcases List.mem_append.1 hx with h1 | h1
                  · exact HI.out x (List.mem_of_mem_take h1)
                  · rcases List.mem_cons.1 h1 with rfl | h1
                    · exact HIS.out
                    · exact HI.out x (List.mem_of_mem_drop h1)
            · cases a with
              | none =>
                go_wp2_with (first | (at_builtin; go_loud (refine app_scs rfl _ _ rfl w2.heap.size _ (l.take p ++ [(i, s)]) rfl HO4.out _ _ _ S (l.drop p) rfl (HR6.out _ _) (by simp only [List.length_append, List.length_take, List.length_drop, ← HNL.out]; simp; omega) z4 ?_)))
                intro v5 w5 ho5 hb5 hg5
                obtain ⟨a5, c5, rfl, _⟩ := ho5.form
                have HO5 : Hid (OwnL scC 60 2 w5 w2.heap.size (.slice a5 (l.take p ++ (i, s) :: l.drop p).length c5) (l.take p ++ (i, s) :: l.drop p)) := ho5
                have HB5 : Hid (Below w.heap.size w w5) := HB4w.out.trans (hb5.mono z2)
                obtain ⟨n5, hn5⟩ : ∃ n5, n5 = (l.take p ++ (i, s) :: l.drop p).length := ⟨_, rfl⟩
                have HN5 : Hid (n5 = (l.take p ++ (i, s) :: l.drop p).length) := hn5
                rw [← hn5] at HO5 ⊢
                clear ho5 hb5 hg5 hn5
                go_wp2
                go_ret
                unfold RPut
                have e : putL l (i, s) = l.take p ++ (i, s) :: l.drop p := by rw [HIN.out, HEP.out]
                rw [e]
                refine ⟨a5, n5, c5, rfl, Kd.mono (own_scs HO5.out ?_ fun x hx => ?_) (fun k hk => .inr (Nat.le_trans z2 hk)), HB5.out⟩
                · simp only [List.length_append, List.length_take, List.length_drop, List.length_cons, ← HNL.out]; omega
                · rcases List.mem_append.1 hx with h1 | h1
                  · exact HI.out x (List.mem_of_mem_take h1)
                  · rcases List.mem_cons.1 h1 with rfl | h1
                    · exact HIS.out
                    · exact HI.out x (List.mem_of_mem_drop h1)
              | some ad =>
                go_wp2_with (first | (at_builtin; go_loud (refine app_scs rfl _ _ rfl w2.heap.size _ (l.take p ++ [(i, s)]) rfl HO4.out _ _ _ S (l.drop p) rfl (HR6.out _ _) (by simp only [List.length_append, List.length_take, List.length_drop, ← HNL.out]; simp; omega) z4 ?_)))
                intro v5 w5 ho5 hb5 hg5
                obtain ⟨a5, c5, rfl, _⟩ := ho5.form
                have HO5 : Hid (OwnL scC 60 2 w5 w2.heap.size (.slice a5 (l.take p ++ (i, s) :: l.drop p).length c5) (l.take p ++ (i, s) :: l.drop p)) := ho5
                have HB5 : Hid (Below w.heap.size w w5) := HB4w.out.trans (hb5.mono z2)
                obtain ⟨n5, hn5⟩ : ∃ n5, n5 = (l.take p ++ (i, s) :: l.drop p).length := ⟨_, rfl⟩
                have HN5 : Hid (n5 = (l.take p ++ (i, s) :: l.drop p).length) := hn5
                rw [← hn5] at HO5 ⊢
                clear ho5 hb5 hg5 hn5
                go_wp2
                go_ret
                unfold RPut
                have e : putL l (i, s) = l.take p ++ (i, s) :: l.drop p := by rw [HIN.out, HEP.out]
                rw [e]
                refine ⟨a5, n5, c5, rfl, Kd.mono (own_scs HO5.out ?_ fun x hx => ?_) (fun k hk => .inr (Nat.le_trans z2 hk)), HB5.out⟩
                · simp only [List.length_append, List.length_take, List.length_drop, List.length_cons, ← HNL.out]; omega
                · rcases List.mem_append.1 hx with h1 | h1
                  · exact HI.out x (List.mem_of_mem_take h1)
                  · rcases List.mem_cons.1 h1 with rfl | h1
                    · exact HIS.out
                    · exact HI.out x (List.mem_of_mem_drop h1)
end Go.Proofs.Ytikgcgfigcolmaa
