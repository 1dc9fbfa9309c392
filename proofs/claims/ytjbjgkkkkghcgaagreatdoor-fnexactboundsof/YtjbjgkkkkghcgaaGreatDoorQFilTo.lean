/- A filter that came in, copied into memory of its own. No condition. -/
import Derived.Test.YtjbjgkkkkghcgaaGreatDoorQClT
namespace Go.Proofs.YtjbjgkkkkghcgaaGreatDoor
open Go.RowKit
set_option linter.unusedVariables false

theorem IntsAt.but {w w' : World} {B q g n : Nat} {f : Nat → Int} (h : IntsAt w g n f) (hb : BelowBut B q w w') (hB : g < B) (hne : g ≠ q) : IntsAt w' g n f := fun i hi =>
  ⟨(hb.cell hB hne).trans (h i hi).1, (hb.frozen hB hne).trans (h i hi).2⟩
theorem IntsAt.same {w : World} {g n : Nat} {f f' : Nat → Int} (h : IntsAt w g n f) (e : ∀ i, i < n → f i = f' i) : IntsAt w g n f' := fun i hi => by
  rw [← e i hi]
  exact h i hi

set_option maxHeartbeats 1000000 in
theorem toIntS_any (a : Option Addr) (c m : Nat) (K : Nat → Int) (w : World) (hm : m ≤ 2 ^ 20) (h : ArgI w a m K) :
    Calls Tryz.prog 44 #[.slice a m c] w fun e w' => ∃ a' c', e = .returned (.slice a' m c') ∧ m ≤ c' ∧ OwnK w' w.heap.size (.slice a' m c') m K ∧ w.heap.size < w'.heap.size ∧ Below w.heap.size w w' := by
  have H : Hid (ArgI w a m K) := h
  clear h
  have hmk := make_ints m (by omega)
  have n1 := ints_made m w 3
  obtain ⟨W, hW⟩ : ∃ W, W = w.alloc (.cells (madeCells #[.int .i64 0] m) 3) := ⟨_, rfl⟩
  have hsz : W.heap.size = w.heap.size + 1 := by rw [hW]; simp
  have hbl : Below w.heap.size w W := by rw [hW]; go_grown
  rw [← hW] at n1
  have hmw := hmk w
  rw [← hW] at hmw
  clear hmk
  have HN : Hid (IntsAt W w.heap.size m (fun _ => 0)) := n1
  clear n1 hW
  go_enter Tryz.func44, Tryz.ntmps44
  go_wp2_with fail
  go_loopw [4] (fun i wr => ∃ k : Nat, k ≤ m ∧ i = .int .i64 k ∧ w.heap.size < wr.heap.size ∧ Below w.heap.size w wr ∧ Hid (IntsAt wr w.heap.size m (fun j => if j < k then K j else 0))) (fun i _ => m - (intOf i).toNat)
  case atStart => exact ⟨0, Nat.zero_le _, rfl, by omega, hbl, by show IntsAt _ _ _ _; simpa using HN.out⟩
  case round =>
    obtain ⟨k, hk, rfl, hz, hnx, HI⟩ := hrel
    by_cases hlt : k < m
    · rcases H.out with h0 | ⟨b, off, rfl, hb, hat⟩
      · omega
      have a0 := (hnx.cell hb).trans (hat k hlt)
      have l0 := (HI.out k hlt).1
      have l1 := (HI.out k hlt).2
      simp only [Nat.lt_irrefl, if_false] at l0
      have i0 : (0 : Int) ≤ (k : Int) := by omega
      have i1 : (k : Int) < (m : Int) := by omega
      clear hat
      go_wp2
      have r1 := (HI.out).set hlt (K k)
      go_roundw
      case rel =>
        refine ⟨k + 1, by omega, by go_num, by simpa [World.setCell] using hz, hnx.setCell (p := ⟨w.heap.size, _, none⟩) (Nat.le_refl _) _, r1.same fun i hi => ?_⟩
        by_cases e : i = k
        · subst e; simp
        · by_cases e2 : i < k
          · simp [e, e2, Nat.lt_succ_of_lt e2]
          · have e3 : ¬ i < k + 1 := by omega
            simp [e, e2, e3]
      case measure => simp [intOf]; omega
    · go_wp2
      go_ret
      obtain rfl : k = m := by omega
      exact ⟨_, _, rfl, Nat.le_refl _, ⟨_, _, rfl, by omega, .inr ⟨rfl, hz, HI.out.same fun i hi => by rw [if_pos hi]⟩⟩, hz, hnx⟩

/-- What toTerm answers. -/
def TermTo (y : Tm) (w : World) (e : Ending) (w' : World) : Prop := ∃ x : Tc, e = .returned (.agg #[.int .i64 x.kind, .string x.path, .slice x.va x.vn x.vc, .slice x.ka x.km x.kc]) ∧ TermOwn w' w.heap.size w'.heap.size x y ∧ Below w.heap.size w w'

set_option maxHeartbeats 1000000 in
theorem toTerm_any (y : Tm) (va ka : Option Addr) (vc kc : Nat) (w : World) (hs : SmallT y) (hv : ArgIs w va y.n y.N) (hk : ArgI w ka y.m y.K) :
    Calls Tryz.prog 29 #[.agg #[.int .i64 y.kind, .string y.path, .slice va y.n vc, .slice ka y.m kc]] w (TermTo y w) := by
  obtain ⟨k, p, n, N, m, K⟩ := y
  obtain ⟨_, s2, s3⟩ := hs
  dsimp only at hv hk s2 s3 ⊢
  have n20 : n ≤ 2 ^ 20 := s2.1
  have HV : Hid (ArgIs w va n N) := hv
  have HK : Hid (ArgI w ka m K) := hk
  clear hv hk s2
  go_enter Tryz.func29, Tryz.ntmps29
  go_wp2_with fail
  have hbl : ∀ o o' o'', Below w.heap.size w (((w.alloc o).alloc o').alloc o'') := fun o o' o'' => (((Below.refl _ _).alloc (Nat.le_refl _) o).alloc (by simp) o').alloc (by simp; omega) o''
  refine (toValue_cap va vc n N _ n20 (HV.out.below (hbl _ _ _))).mono ?_
  rintro e w1 ⟨b1, a1, c1, rfl, cc1, l1, m1, ho1, hb1⟩
  have x1 : w1.cell? ⟨w.heap.size, 3, none⟩ = some (.slice ka m kc) := by rw [hb1.cell (by simp; omega)]; simp [go_sem]
  have r1 : ∀ i, w1.cell? ⟨w.heap.size + 1, i, none⟩ = #[Value.int .i64 0, .string ⟨#[]⟩, .slice none 0 0, .slice none 0 0][i]? := fun i => by rw [hb1.cell (by simp)]; simp [go_sem]
  have o1 : ∀ i, w1.cell? ⟨w.heap.size + 1 + 1, i, none⟩ = #[Value.int .i64 k, .string p, .slice none 0 0, .slice none 0 0][i]? := fun i => by rw [hb1.cell (by simp)]; simp [go_sem]
  have fr1 : ∀ i, w1.frozen? ⟨w.heap.size + 1, i, none⟩ = false := fun i => by rw [hb1.frozen (by simp)]; simp [go_sem]
  have fo1 : ∀ i, w1.frozen? ⟨w.heap.size + 1 + 1, i, none⟩ = false := fun i => by rw [hb1.frozen (by simp)]; simp [go_sem]
  have z1 := hb1.size
  simp at z1 l1
  have HO1 : Hid (OwnAt w1 b1 (.slice a1 n c1) n N) := ho1
  have HB1 : Hid (Below w.heap.size w w1) := (hbl _ _ _).trans (hb1.mono (by simp; omega))
  have o12 := o1 2
  have fo12 := fo1 2
  simp at o12
  have HR1 : Hid (∀ i, w1.cell? ⟨w.heap.size + 1, i, none⟩ = #[Value.int .i64 0, .string ⟨#[]⟩, .slice none 0 0, .slice none 0 0][i]?) := r1
  have HP1 : Hid (∀ i, w1.cell? ⟨w.heap.size + 1 + 1, i, none⟩ = #[Value.int .i64 k, .string p, .slice none 0 0, .slice none 0 0][i]?) := o1
  have HFR1 : Hid ((∀ i, w1.frozen? ⟨w.heap.size + 1, i, none⟩ = false) ∧ ∀ i, w1.frozen? ⟨w.heap.size + 1 + 1, i, none⟩ = false) := ⟨fr1, fo1⟩
  clear ho1 hb1 hbl r1 o1 fr1 fo1
  go_wp2_with fail
  obtain ⟨W1, hW1⟩ : ∃ W1, W1 = w1.setCell ⟨w.heap.size + 1 + 1, 2, none⟩ (.slice a1 n c1) := ⟨_, rfl⟩
  have bb1 : BelowBut w1.heap.size (w.heap.size + 1 + 1) w1 W1 := by rw [hW1]; exact BelowBut.setCell _ _ _
  have q1 : ∀ i, W1.cell? ⟨w.heap.size + 1 + 1, i, none⟩ = #[Value.int .i64 k, .string p, .slice a1 n c1, .slice none 0 0][i]? := fun i => by
    rw [hW1, cell_set (by rw [o12]; rfl), HP1.out]
    match i with
    | 0 => rfl
    | 1 => rfl
    | 2 => rfl
    | 3 => rfl
    | i + 4 => simp
  have z11 : W1.heap.size = w1.heap.size := by rw [hW1]; simp [World.setCell]
  rw [← hW1]
  have HQ1 : Hid (∀ i, W1.cell? ⟨w.heap.size + 1 + 1, i, none⟩ = #[Value.int .i64 k, .string p, .slice a1 n c1, .slice none 0 0][i]?) := q1
  have HR11 : Hid (∀ i, W1.cell? ⟨w.heap.size + 1, i, none⟩ = #[Value.int .i64 0, .string ⟨#[]⟩, .slice none 0 0, .slice none 0 0][i]?) := fun i => (bb1.cell (by omega) (by omega)).trans (HR1.out i)
  have HFR11 : Hid ((∀ i, W1.frozen? ⟨w.heap.size + 1, i, none⟩ = false) ∧ ∀ i, W1.frozen? ⟨w.heap.size + 1 + 1, i, none⟩ = false) := ⟨fun i => (bb1.frozen (by omega) (by omega)).trans (HFR1.out.1 i), fun i => by rw [hW1, World.frozen?_setCell]; exact HFR1.out.2 i⟩
  have HO11 : Hid (OwnAt W1 b1 (.slice a1 n c1) n N) := HO1.out.but bb1 (by omega)
  have HB11 : Hid (Below w.heap.size w W1) := HB1.out.trans (bb1.below HB1.out.size (by omega))
  clear q1 bb1 hW1 o12 fo12 HP1 HR1 HFR1 HO1 HB1 x1
  refine (toIntS_any ka kc m K W1 s3 (HK.out.below HB11.out)).mono ?_
  rintro e w2 ⟨a2, c2, rfl, cc2, ho2, hlt2, hb2⟩
  have z2 := hb2.size
  have fo2 : w2.frozen? ⟨w.heap.size + 1 + 1, 3, none⟩ = false := (hb2.frozen (by show w.heap.size + 1 + 1 < _; omega)).trans (HFR11.out.2 3)
  have fr0 : w2.frozen? ⟨w.heap.size + 1, 0, none⟩ = false := (hb2.frozen (by show w.heap.size + 1 < _; omega)).trans (HFR11.out.1 0)
  have fr1 : w2.frozen? ⟨w.heap.size + 1, 1, none⟩ = false := (hb2.frozen (by show w.heap.size + 1 < _; omega)).trans (HFR11.out.1 1)
  have fr2 : w2.frozen? ⟨w.heap.size + 1, 2, none⟩ = false := (hb2.frozen (by show w.heap.size + 1 < _; omega)).trans (HFR11.out.1 2)
  have fr3 : w2.frozen? ⟨w.heap.size + 1, 3, none⟩ = false := (hb2.frozen (by show w.heap.size + 1 < _; omega)).trans (HFR11.out.1 3)
  have o0 : w2.cell? ⟨w.heap.size + 1 + 1, 0, none⟩ = some (.int .i64 k) := (hb2.cell (by show w.heap.size + 1 + 1 < _; omega)).trans (HQ1.out 0)
  have o1 : w2.cell? ⟨w.heap.size + 1 + 1, 1, none⟩ = some (.string p) := (hb2.cell (by show w.heap.size + 1 + 1 < _; omega)).trans (HQ1.out 1)
  have o2 : w2.cell? ⟨w.heap.size + 1 + 1, 2, none⟩ = some (.slice a1 n c1) := (hb2.cell (by show w.heap.size + 1 + 1 < _; omega)).trans (HQ1.out 2)
  have o3 : w2.cell? ⟨w.heap.size + 1 + 1, 3, none⟩ = some (.slice none 0 0) := (hb2.cell (by show w.heap.size + 1 + 1 < _; omega)).trans (HQ1.out 3)
  have r0 : w2.cell? ⟨w.heap.size + 1, 0, none⟩ = some (.int .i64 0) := (hb2.cell (by show w.heap.size + 1 < _; omega)).trans (HR11.out 0)
  have r1 : w2.cell? ⟨w.heap.size + 1, 1, none⟩ = some (.string ⟨#[]⟩) := (hb2.cell (by show w.heap.size + 1 < _; omega)).trans (HR11.out 1)
  have r2 : w2.cell? ⟨w.heap.size + 1, 2, none⟩ = some (.slice none 0 0) := (hb2.cell (by show w.heap.size + 1 < _; omega)).trans (HR11.out 2)
  have r3 : w2.cell? ⟨w.heap.size + 1, 3, none⟩ = some (.slice none 0 0) := (hb2.cell (by show w.heap.size + 1 < _; omega)).trans (HR11.out 3)
  have HO2 : Hid (OwnAt w2 b1 (.slice a1 n c1) n N) := HO11.out.below hb2
  have HK2 : Hid (OwnK w2 W1.heap.size (.slice a2 m c2) m K) := ho2
  have HB2 : Hid (Below w.heap.size w w2) := HB11.out.trans (hb2.mono HB11.out.size)
  have zz : w.heap.size + 1 + 1 < w2.heap.size := by omega
  have zz1 : w.heap.size + 1 < w2.heap.size := by omega
  clear ho2 hb2 HQ1 HR11 HFR11 HO11 HB11
  go_wp2
  refine bodyPost_ret (v := .agg #[.int .i64 k, .string p, .slice a1 n c1, .slice a2 m c2]) (by simp [results, Tryz.results29, go_sem, r0, r1, r2, r3]) rfl ⟨⟨k, p, a1, n, c1, a2, m, c2⟩, rfl, ⟨rfl, rfl, cc1, cc2, b1, W1.heap.size, fun _ => ⟨by omega, by simp [World.setCell]; omega⟩, fun _ => ⟨by omega, by simp [World.setCell]; omega⟩, fun _ _ => by omega, ?_, ?_⟩, ?_⟩
  · exact ((((HO2.out.but (BelowBut.setCell _ _ _) (by omega)).but (BelowBut.setCell _ _ _) (by omega)).but (BelowBut.setCell _ _ _) (by omega)).but (BelowBut.setCell _ _ _) (by omega)).but (BelowBut.setCell _ _ _) (by omega)
  · exact ((((HK2.out.but (BelowBut.setCell _ _ _) (fun _ => by omega)).but (BelowBut.setCell _ _ _) (fun _ => by omega)).but (BelowBut.setCell _ _ _) (fun _ => by omega)).but (BelowBut.setCell _ _ _) (fun _ => by omega)).but (BelowBut.setCell _ _ _) (fun _ => by omega)
  · exact ((((HB2.out.setCell (by show _ ≤ w.heap.size + 1 + 1; omega) _).setCell (by show _ ≤ w.heap.size + 1; omega) _).setCell (by show _ ≤ w.heap.size + 1; omega) _).setCell (by show _ ≤ w.heap.size + 1; omega) _).setCell (by show _ ≤ w.heap.size + 1; omega) _

/-- What a row of terms has become while it is copied. -/
def RowTo (wr : World) (B t k : Nat) (F : Nat → Tm) : Prop := ∃ (R : Nat → Tc) (P Q : Nat → Nat), RowAt wr B 0 t R ∧ FreeR wr B 0 t ∧ (∀ i, i < k → TermOwn wr (P i) (Q i) (R i) (F i)) ∧ (∀ i, i < k → B < P i ∧ Q i ≤ wr.heap.size) ∧ ∀ i j, i < j → j < k → Q i ≤ P j ∨ Q j ≤ P i

theorem RowTo.next {wr w1 W : World} {B t k : Nat} {F : Nat → Tm} {x : Tc} (h : RowTo wr B t k F) (hk : k < t) (hB : B < wr.heap.size) (hb : Below wr.heap.size wr w1) (ho : TermOwn w1 wr.heap.size w1.heap.size x (F k))
    (hW : W = (((w1.setCell ⟨B, 0 + k * 4, none⟩ (.int .i64 x.kind)).setCell ⟨B, 0 + k * 4 + 1, none⟩ (.string x.path)).setCell ⟨B, 0 + k * 4 + 2, none⟩ (.slice x.va x.vn x.vc)).setCell ⟨B, 0 + k * 4 + 3, none⟩ (.slice x.ka x.km x.kc)) :
    RowTo W B t (k + 1) F ∧ BelowBut w1.heap.size B w1 W := by
  obtain ⟨R, P, Q, h1, h2, h3, h4, h5⟩ := h
  obtain ⟨r1, r2, r3⟩ := store_term hk (h1.below hb hB) (h2.below hb hB) W hW
  have z := hb.size
  have z3 := r3.size
  refine ⟨⟨_, fun i => if i = k then wr.heap.size else P i, fun i => if i = k then w1.heap.size else Q i, r1, r2, fun i hi => ?_, fun i hi => ?_, fun i j hij hj => ?_⟩, r3⟩
  · by_cases e : i = k
    · subst e
      simp only
      exact ho.but r3 (.inl hB)
    · simp only [if_neg e]
      exact ((h3 i (by omega)).below hb).but r3 (.inl (h4 i (by omega)).1)
  · by_cases e : i = k
    · subst e
      simp only
      exact ⟨hB, z3⟩
    · simp only [if_neg e]
      have := h4 i (by omega)
      exact ⟨this.1, by omega⟩
  · have e : i ≠ k := by omega
    simp only [if_neg e]
    by_cases e2 : j = k
    · simp only [if_pos e2]
      exact .inl (h4 i (by omega)).2
    · simp only [if_neg e2]
      exact h5 i j hij (by omega)

/-- What toTermS and toFilter answer. -/
def TermsTo (t : Nat) (F : Nat → Tm) (w : World) (a : Option Addr) (c : Nat) (w' : World) : Prop := t ≤ c ∧ ∃ b P Q, w.heap.size ≤ b ∧ b < w'.heap.size ∧ (∀ i, i < t → w.heap.size ≤ P i) ∧ FOwn w' b a t F P Q

set_option maxHeartbeats 2000000 in
theorem toTermS_any (a : Option Addr) (c t : Nat) (F : Nat → Tm) (w : World) (hs : SmallF t F) (h : FArg w a t F) :
    Calls Tryz.prog 13 #[.slice a t c] w fun e w' => ∃ a' c', e = .returned (.slice a' t c') ∧ TermsTo t F w a' c' w' ∧ Below w.heap.size w w' := by
  have H : Hid (FArg w a t F) := h
  have HS : Hid (SmallF t F) := hs
  have ht := hs.1
  clear h hs
  have hmk := make_terms t (by omega)
  obtain ⟨n1, n2⟩ := terms_made t w 62
  obtain ⟨W, hW⟩ : ∃ W, W = w.alloc (.cells (madeCells zeroTs (t * 4)) 62) := ⟨_, rfl⟩
  have hsz : W.heap.size = w.heap.size + 1 := by rw [hW]; simp
  have hbl : Below w.heap.size w W := by rw [hW]; go_grown
  rw [← hW] at n1 n2
  have hmw := hmk w
  rw [← hW] at hmw
  clear hmk
  have HN : Hid (RowAt W w.heap.size 0 t (fun _ => zeroTc) ∧ FreeR W w.heap.size 0 t) := ⟨n1, n2⟩
  clear n1 n2 hW
  go_enter Tryz.func13, Tryz.ntmps13
  go_wp2_with fail
  go_loopw [4] (fun i wr => ∃ k : Nat, k ≤ t ∧ i = .int .i64 k ∧ Below w.heap.size w wr ∧ w.heap.size < wr.heap.size ∧ Hid (RowTo wr w.heap.size t k F)) (fun i _ => t - (intOf i).toNat)
  case atStart => exact ⟨0, Nat.zero_le _, rfl, hbl, by omega, ⟨_, fun _ => 0, fun _ => 0, HN.out.1, HN.out.2, fun j hj => by omega, fun j hj => by omega, fun i j hij hj => by omega⟩⟩
  case round =>
    obtain ⟨k, hk, rfl, hnx, hlt0, HM⟩ := hrel
    by_cases hlt : k < t
    · obtain ⟨b, off, va, vc, ka, kc, rfl, hb, a0, a1, a2, a3, hv, hkk⟩ := (H.out.below hnx).at hlt
      have i0 : (0 : Int) ≤ (k : Int) := by omega
      have i1 : (k : Int) < (t : Int) := by omega
      have HV : Hid (ArgIs wr va (F k).n (F k).N ∧ ArgI wr ka (F k).m (F k).K) := ⟨hv, hkk⟩
      clear hv hkk
      go_wp2_with fail
      refine (toTerm_any (F k) va ka vc kc wr (HS.out.2 k hlt) HV.out.1 HV.out.2).mono ?_
      rintro e w1 ⟨x, rfl, ho, hb1⟩
      obtain ⟨R, P, Q, m1, m2, _⟩ := HM.out
      obtain ⟨g0, g1, g2, g3⟩ := m1.below hb1 hlt0 k hlt
      have m2' := m2.below hb1 hlt0
      have f0 := m2' (k * 4) (by omega)
      have f1 := m2' (k * 4 + 1) (by omega)
      have f2 := m2' (k * 4 + 2) (by omega)
      have f3 := m2' (k * 4 + 3) (by omega)
      simp only [Nat.zero_add] at g0 g1 g2 g3 f0 f1 f2 f3
      have z1 := hb1.size
      have HO : Hid (TermOwn w1 wr.heap.size w1.heap.size x (F k)) := ho
      have HB1 : Hid (Below wr.heap.size wr w1) := hb1
      have HB : Hid (Below w.heap.size w w1) := hnx.trans (hb1.mono hnx.size)
      clear m1 m2 m2' hb1 ho a0 a1 a2 a3
      go_wp2_with fail
      obtain ⟨r1, r3⟩ := RowTo.next HM.out hlt hlt0 HB1.out HO.out rfl
      simp only [Nat.zero_add] at r1 r3
      go_roundw
      case rel => exact ⟨k + 1, by omega, by go_num, HB.out.trans (r3.below HB.out.size (Nat.le_refl _)), by have := r3.size; omega, r1⟩
      case measure => simp [intOf]; omega
    · go_wp2
      go_ret
      obtain rfl : k = t := by omega
      obtain ⟨R, P, Q, m1, m2, m3, m4, m5⟩ := HM.out
      exact ⟨_, _, rfl, ⟨Nat.le_refl _, w.heap.size, P, Q, Nat.le_refl _, hlt0, fun i hi => Nat.le_of_lt (m4 i hi).1, by omega, .inr ⟨rfl, hlt0, R, m1, m2, m3⟩, fun i hi => ⟨.inl (m4 i hi).1, (m4 i hi).2⟩, m5⟩, hnx⟩

set_option maxHeartbeats 400000 in
theorem toFilter_any (a : Option Addr) (c t : Nat) (F : Nat → Tm) (w : World) (hs : SmallF t F) (h : FArg w a t F) :
    Calls Tryz.prog 6 #[.agg #[.slice a t c]] w fun e w' => ∃ a' c', e = .returned (.agg #[.slice a' t c']) ∧ TermsTo t F w a' c' w' ∧ Below w.heap.size w w' := by
  have H : Hid (FArg w a t F) := h
  have HS : Hid (SmallF t F) := hs
  clear h hs
  go_enter Tryz.func6, Tryz.ntmps6
  go_wp2_with fail
  refine (toTermS_any a c t F _ HS.out (H.out.below (by go_grown))).mono ?_
  rintro e w1 ⟨a1, c1, rfl, ho, hb⟩
  have x1 : w1.cell? ⟨w.heap.size + 1, 0, none⟩ = some (.slice none 0 0) := by rw [hb.cell (by simp)]; simp [go_sem]
  have x2 : w1.cell? ⟨w.heap.size + 1 + 1, 0, none⟩ = some (.slice none 0 0) := by rw [hb.cell (by simp)]; simp [go_sem]
  have f1 : w1.frozen? ⟨w.heap.size + 1, 0, none⟩ = false := by rw [hb.frozen (by simp)]; simp [go_sem]
  have f2 : w1.frozen? ⟨w.heap.size + 1 + 1, 0, none⟩ = false := by rw [hb.frozen (by simp)]; simp [go_sem]
  have z := hb.size
  simp at z
  have z1 : w.heap.size + 1 < w1.heap.size := by omega
  have z2 : w.heap.size + 1 + 1 < w1.heap.size := by omega
  obtain ⟨hc, b, P, Q, hb0, hb1, hP, hF⟩ := ho
  simp at hb0 hP
  have HO : Hid (FOwn w1 b a1 t F P Q) := hF
  have HP : Hid (∀ i, i < t → w.heap.size + 1 + 1 < P i) := fun i hi => by have := hP i hi; omega
  have HB : Hid (Below w.heap.size w w1) := (show Below w.heap.size w _ by go_grown).trans (hb.mono (by simp; omega))
  clear hF hb hP
  go_wp2
  refine bodyPost_ret (v := .agg #[.slice a1 t c1]) (by simp [results, Tryz.results6, go_sem, x1]) rfl ⟨a1, c1, rfl, ⟨hc, b, P, Q, by omega, by simp [World.setCell]; omega, fun i hi => by have := HP.out i hi; omega, ?_⟩, ?_⟩
  · exact (HO.out.but (BelowBut.setCell _ _ _) (by omega) (fun i hi => .inl (by have := HP.out i hi; omega))).but (BelowBut.setCell _ _ _) (by omega) (fun i hi => .inl (by have := HP.out i hi; omega))
  · exact (HB.out.setCell (by simp; omega) _).setCell (by simp) _

end Go.Proofs.YtjbjgkkkkghcgaaGreatDoor
