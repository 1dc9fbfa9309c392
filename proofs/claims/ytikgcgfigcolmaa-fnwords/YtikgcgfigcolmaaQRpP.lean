/- Rows of rankings while they grow. No condition. Rankings that are good: the specification's. No condition but that they fit in memory. The best of several lists: the mathematics. No condition. The best few found ahead of the lists' ends: the mathematics. No condition. The specification's sum of an id, the first few, and one put to its place. No condition but that they fit in memory. The specification's first few, and one put to its place. No condition but that they fit in memory. -/
import Derived.Test.YtikgcgfigcolmaaAp3
import Derived.Test.YtikgcgfigcolmaaRkG
import Derived.Test.YtikgcgfigcolmaaRkM
import Derived.RangeFuncNested
namespace Go.Proofs.Ytikgcgfigcolmaa
open Go.RowKit
set_option linter.unusedVariables false

def vC (v : Value) : List Value := [v]
/-- A row of rankings, made by append; each has memory of its own. -/
def RBld (w : World) (B : Nat) (v : Value) (L : List DRanking) : Prop :=
  ∃ (cs : List Value) (T : Nat → Nat → Prop), cs.length = L.length ∧ OwnL vC 58 1 w B v cs ∧
    (∀ i r, L[i]? = some r → ∃ cv, cs[i]? = some cv ∧ kRanking.is true w (T i) [cv] r) ∧
    (∀ i k, i < L.length → T i k → B ≤ k ∧ k < w.heap.size ∧ v.ownBlock ≠ some k) ∧ (∀ i j k, i < L.length → j < L.length → i ≠ j → T i k → ¬ T j k)
theorem RBld.nil (w : World) (B : Nat) : RBld w B (.slice none 0 0) [] := ⟨[], fun _ _ => False, rfl, OwnL.nil _ _ _ _ _, fun i r h => by simp at h, fun i k h => by simp at h, fun i j k h => by simp at h⟩
theorem RBld.form {w : World} {B : Nat} {v : Value} {L : List DRanking} (h : RBld w B v L) : ∃ a c, v = .slice a L.length c ∧ L.length ≤ c := by
  obtain ⟨cs, T, h1, h2, _⟩ := h
  obtain ⟨a, c, e, hc⟩ := h2.form
  exact ⟨a, c, by rw [e, h1], by omega⟩
theorem RBld.below {w w' : World} {B : Nat} {v : Value} {L : List DRanking} (h : RBld w B v L) (hb : Below w.heap.size w w') : RBld w' B v L := by
  obtain ⟨cs, T, h1, h2, h3, h4, h5⟩ := h
  refine ⟨cs, T, h1, h2.below hb, fun i r hr => ?_, fun i k hi hk => ?_, h5⟩
  · obtain ⟨cv, h6, h7⟩ := h3 i r hr
    exact ⟨cv, h6, Kd.below h7 hb⟩
  · obtain ⟨h6, h7, h8⟩ := h4 i k hi hk
    exact ⟨h6, Nat.lt_of_lt_of_le h7 hb.size, h8⟩
theorem infoRkA : (Try.prog.info? 58).map (fun i => (i.zero, i.size, i.bytes)) = some (some (.agg #[.slice none 0 0]), 1, 24) := by kernel_rfl
/-- What is left as it was where a row has grown. -/
theorem RBld.grew {w w' : World} {B : Nat} {v v' : Value} {L : List DRanking} {cs : List Value} {T : Nat → Nat → Prop} {r : DRanking} {cv : Value} {S : Nat → Prop} (h1 : cs.length = L.length)
    (h3 : ∀ i r, L[i]? = some r → ∃ cv, cs[i]? = some cv ∧ kRanking.is true w (T i) [cv] r) (h4 : ∀ i k, i < L.length → T i k → B ≤ k ∧ k < w.heap.size ∧ v.ownBlock ≠ some k) (h5 : ∀ i j k, i < L.length → j < L.length → i ≠ j → T i k → ¬ T j k)
    (hr : kRanking.is true w S [cv] r) (hS : ∀ k, S k → B ≤ k ∧ k < w.heap.size ∧ v.ownBlock ≠ some k) (hST : ∀ i k, i < L.length → T i k → ¬ S k) (ho : OwnL vC 58 1 w' B v' (cs ++ [cv])) (hg : GrewO w w' v v') : RBld w' B v' (L ++ [r]) := by
  have hz := hg.kept.size
  refine ⟨cs ++ [cv], fun i k => if i = L.length then S k else T i k, by simp [h1], ho, fun i q hq => ?_, fun i k hi hk => ?_, fun i j k hi hj hn hk hk' => ?_⟩
  · by_cases e : i = L.length
    · subst e
      obtain rfl : r = q := by simpa using hq
      refine ⟨cv, by rw [List.getElem?_append_right (by omega)]; simp [h1], ?_⟩
      simp only [if_pos]
      exact hg.datum hr (fun k hk => (hS k hk).2.2)
    · have hi : i < L.length := by have := (List.getElem?_eq_some_iff.1 hq).1; simp at this; omega
      rw [List.getElem?_append_left hi] at hq
      obtain ⟨c', h6, h7⟩ := h3 i q hq
      refine ⟨c', by rw [List.getElem?_append_left (by omega)]; exact h6, ?_⟩
      simp only [if_neg e]
      exact hg.datum h7 (fun k hk => (h4 i k hi hk).2.2)
  · have key : ∀ k, B ≤ k ∧ k < w.heap.size ∧ v.ownBlock ≠ some k → B ≤ k ∧ k < w'.heap.size ∧ v'.ownBlock ≠ some k := fun k ⟨a, b, c⟩ => ⟨a, by omega, fun e => by
      rcases hg.moved with h | ⟨g, h, hge⟩
      · exact c (h ▸ e)
      · rw [h] at e
        injection e with e
        omega⟩
    by_cases e : i = L.length
    · simp only [if_pos e] at hk
      exact key k (hS k hk)
    · simp only [if_neg e] at hk
      exact key k (h4 i k (by simp at hi; omega) hk)
  · simp only [List.length_append, List.length_singleton] at hi hj
    by_cases e : i = L.length
    · simp only [if_pos e] at hk
      simp only [if_neg (show ¬ j = L.length by omega)] at hk'
      exact hST j k (by omega) hk' hk
    · simp only [if_neg e] at hk
      by_cases e' : j = L.length
      · simp only [if_pos e'] at hk'
        exact hST i k (by omega) hk hk'
      · simp only [if_neg e'] at hk'
        exact h5 i j k (by omega) (by omega) hn hk hk'
/-- append(out, r) of rankings; what r has lies at B' and behind, what was there ahead of it. -/
theorem app_rk {w : World} {ops : Array Oper} {rest : List Oper} {o : Oper} {a : Act} {Q : Exit → Act → World → Prop} (hgd : o.guard = none) (s x : Operand)
    (ho : o.op = .call { callee := .builtin .append, args := #[s, x], argTypes := #[47, 47] })
    (B : Nat) (v : Value) (L : List DRanking) (hs : a.eval s = v) {w0 w1 : World} (hown : RBld w0 B v L) (hb : Below w0.heap.size w0 w1) (hb2 : Below w1.heap.size w1 w) (b : Nat) (cv : Value) (r : DRanking) (hx : a.eval x = .slice (some ⟨b, 0, none⟩) 1 1) (hcv : cv.oneCell' = true) (hc : w.cell? ⟨b, 0, none⟩ = some cv)
    (hr : kRanking.is true w1 (fun k => w0.heap.size ≤ k) [cv] r)
    (hL : L.length < 2 ^ 30) (hbase : B ≤ w0.heap.size)
    (h : ∀ v' w', RBld w' B v' (L ++ [r]) → Below B w w' → wpList Try.prog ops Q rest (a.put o.dst v') w') : wpList Try.prog ops Q (o :: rest) a w := by
  obtain ⟨i0, hi, hz0, hz1, hz2⟩ := info_parts infoRkA
  obtain ⟨cs, T, h1, h2, h3, h4, h5⟩ := hown
  have hbw := hb.trans (hb2.mono hb.size)
  have z0 := hb.size
  have z1 := hb2.size
  refine wpList_app1 vC hgd s x 47 ho B 58 i0 _ 1 24 Try.underlying47 hi hz0 hz1 hz2 rfl (by decide) (by decide) v cs hs (h2.below hbw) b cv hx rfl (fun u hu => by simp [vC] at hu; rw [hu]; exact hcv) (fun j u hj => by
    match j, hj with
    | 0, hj => obtain rfl : cv = u := by simpa [vC] using hj
               exact hc) (by omega) (by omega) fun v' w' ho' hb' hg' => h v' w' ?_ hb'
  refine RBld.grew (S := fun k => w0.heap.size ≤ k ∧ k < w1.heap.size) h1 (fun i q hq => ?_) (fun i k hik hk => ?_) h5 (Kd.below (Kd.tight _ hr (fun k hk h' => ⟨h', hk⟩)) hb2) (fun k hk => ?_) (fun i k hik hk hS => ?_) ho' hg'.o
  · obtain ⟨c', h6, h7⟩ := h3 i q hq
    exact ⟨c', h6, Kd.below h7 hbw⟩
  · obtain ⟨h6, h7, h8⟩ := h4 i k hik hk
    exact ⟨h6, by omega, h8⟩
  · exact ⟨by omega, by omega, fun e => by have := (World.ownsRow.lt h2 k e).2; omega⟩
  · have := (h4 i k hik hk).2.1
    omega
/-- A row that has grown is a row of one's own. -/
theorem RBld.row {w : World} {B : Nat} {a : Option Addr} {n c : Nat} {L : List DRanking} (h : RBld w B (.slice a n c) L) (hl : L.length ≤ 2 ^ 30) : (kRow kRanking).is true w (fun k => B ≤ k) [.slice a n c] L := by
  obtain ⟨a', c', e, hc'⟩ := h.form
  obtain ⟨rfl, rfl, rfl⟩ : a = a' ∧ n = L.length ∧ c = c' := by simpa using e
  obtain ⟨cs, T, h1, h2, h3, h4, h5⟩ := h
  have hcells := @World.ownsRow.cells _ _ _ _ _ _ _ h2
  refine ⟨a, c, rfl, by unfold maxLen; omega, fun _ => hc', ?_⟩
  obtain ⟨_, ⟨e2, e0⟩ | ⟨g, cap, cur, e, h6, h7, h8⟩⟩ := h2
  · exact .inl (List.eq_nil_of_length_eq_zero (by omega))
  · have ea : a = some ⟨g, 0, none⟩ := by injection e
    subst ea
    refine .inr ⟨g, 0, T, fun i => [(cs[i]?).getD undef], rfl, (Array.getElem?_eq_some_iff.1 h7).1, h6, fun i x hx => ?_, fun i k hi hk => (h4 i k hi hk).1, fun _ => ⟨fun i hi hk => (h4 i g hi hk).2.2 rfl, h5⟩⟩
    obtain ⟨cv, h9, h10⟩ := h3 i x hx
    simp only [h9, Option.getD_some]
    refine ⟨h10, fun j v hj => ?_⟩
    have hj0 : j = 0 := by have := (List.getElem?_eq_some_iff.1 hj).1; simp at this; omega
    subst hj0
    obtain rfl : cv = v := by simpa using hj
    have := hcells (g := g) rfl i cv (by
      have h11 := flat_get (cs := vC) (n := 1) (fun _ => rfl) cs i 0 cv h9 (by decide)
      simpa [vC] using h11)
    rw [show ((⟨g, 0, none⟩ : Addr).add i) = ⟨g, 0 + i * kRanking.wd + 0, none⟩ by show _ = (⟨g, 0 + i * 1 + 0, none⟩ : Addr); unfold Addr.add; split <;> simp_all] at this
    exact ⟨this, fun _ => by simp [World.frozen?, h7]⟩
end Go.Proofs.Ytikgcgfigcolmaa
namespace Go.Proofs.Ytikgcgfigcolmaa
open Go.RowKit
set_option linter.unusedVariables false

theorem noId_drop {l : List DScored} {k : Nat} {x : DScored} (h : l[k]? = some x) (i : Int) : noId (l.drop k) i = (!decide (x.1 = i) && noId (l.drop (k + 1)) i) := by
  have hk := (List.getElem?_eq_some_iff.1 h)
  rw [List.drop_eq_getElem_cons hk.1, hk.2, noId]

set_option maxRecDepth 100000 in
set_option maxHeartbeats 4000000 in
theorem specGoodRankings_k (x0 : List DRanking) (a0 : Option Addr) (n0 c0 : Nat) (S0 : Nat → Prop) (w : World) (h0 : (kRow kRanking).is true w S0 [.slice a0 n0 c0] x0) (z0 : (kRow kRanking).sz x0 ≤ 2 ^ 20) :
    Calls Try.prog 29 #[.slice a0 n0 c0] w (RGoodRankings x0 w) := by
  have hnl := row_len h0
  have hmx : n0 ≤ 9223372036854775807 := by obtain ⟨_, _, _, h, _⟩ := row_form h0; rw [hnl]; exact h
  have HNL : Hid (n0 = x0.length) := hnl
  have H : Hid ((kRow kRanking).is true w S0 [.slice a0 n0 c0] x0) := h0
  obtain ⟨q, hq⟩ : ∃ q, q = fGoodRankings x0 := ⟨_, rfl⟩
  have HQ : Hid (((x0.drop 0).all rkGood && decide (x0.length ≤ 5)) = q) := hq.symm
  unfold RGoodRankings
  rw [← hq]
  clear h0 hnl hq z0
  go_enter Try.func29, Try.ntmps29
  go_wp2_with fail
  go_loopw [11] (fun iv wr => ∃ (k : Nat), k ≤ n0 ∧ iv = .int .i64 k ∧ Hid (((x0.drop k).all rkGood && decide (x0.length ≤ 5)) = q) ∧ Below w.heap.size w wr) (fun iv _ => n0 - (intOf iv).toNat)
  case atStart => exact ⟨0, Nat.zero_le _, rfl, HQ, Below.refl _ _⟩
  case round =>
    obtain ⟨k, hk, rfl, HI, hnx⟩ := hrel
    have zw := hnx.size
    by_cases hlt : k < n0
    · obtain ⟨x, hx⟩ : ∃ x, x0[k]? = some x := ⟨_, List.getElem?_eq_getElem (by rw [← HNL.out]; exact hlt)⟩
      obtain ⟨b, off, B, C, rfl, hb, _, hi, _, hc⟩ := row_at (Kd.below H.out hnx) hx
      obtain ⟨la, lc, T, rfl, hm, hl, _⟩ := kRanking_open hi
      have A0 : wr.cell? ⟨b, off + k, none⟩ = some (.slice la x.length lc) := cell1 (hc 0 _ rfl).1
      have hnc : x.length ≤ lc := by obtain ⟨_, _, e, _, h⟩ := row_form hl; simp only [List.cons.injEq, Value.slice.injEq, and_true] at e; have := h rfl; omega
      have i0 : (0 : Int) ≤ (k : Int) := by omega
      have i1 : (k : Int) < (n0 : Int) := by omega
      obtain ⟨R, hR⟩ : ∃ R, R = ((x0.drop (k + 1)).all rkGood && decide (x0.length ≤ 5)) := ⟨_, rfl⟩
      have HI1 : Hid ((rkOk (x.take 0) (x.drop 0) && (decide (x.length ≤ 60) && R)) = q) := by
        have := HI.out
        rw [all_drop hx, Bool.and_assoc, ← hR] at this
        unfold rkGood at this
        rw [Bool.and_assoc] at this
        exact this
      have HR : Hid (R = ((x0.drop (k + 1)).all rkGood && decide (x0.length ≤ 5))) := hR
      obtain ⟨W1, hW1⟩ : ∃ W1, W1 = wr.alloc (.cells #[.slice la x.length lc] 58) := ⟨_, rfl⟩
      have B1 : Below wr.heap.size wr W1 := by rw [hW1]; exact below_a1r _ _
      have HL : Hid ((kRow kScored).is false W1 T [.slice la x.length lc] x) := Kd.below (Kd.read _ hl) B1
      have HB1 : Hid (Below w.heap.size w W1) := hnx.trans (B1.mono hnx.size)
      have X1 : W1.cell? ⟨wr.heap.size, 0, none⟩ = some (.slice la x.length lc) := by rw [hW1]; simp [go_sem]
      clear hc hi hx HI hl hnx hR B1
      obtain ⟨m, hm'⟩ : ∃ m, m = x.length := ⟨_, rfl⟩
      have HM : Hid (m = x.length) := hm'
      rw [← hm'] at A0 HL X1 hW1 hm hnc
      have HI2 : Hid ((rkOk (x.take 0) (x.drop 0) && (decide (m ≤ 60) && R)) = q) := by show _ = _; rw [hm']; exact HI1.out
      clear hm' HI1
      have hm2 : m ≤ 9223372036854775807 := hm
      go_wp2_with fail
      rw [← hW1]
      clear hW1
      go_loopw [18] (fun jv wq => ∃ (j : Nat), j ≤ m ∧ jv = .int .i64 j ∧ Hid ((rkOk (x.take j) (x.drop j) && (decide (m ≤ 60) && R)) = q) ∧ Below W1.heap.size W1 wq) (fun jv _ => m - (intOf jv).toNat)
      case atStart => exact ⟨0, Nat.zero_le _, rfl, HI2, Below.refl _ _⟩
      case round =>
        obtain ⟨j, hj, rfl, HJ, hnq⟩ := hrel
        have HBQ : Hid (Below w.heap.size w wr) := HB1.out.trans (hnq.mono HB1.out.size)
        have Y1 := cell_later hnq X1
        have zq := hnq.size
        by_cases hjl : j < m
        · obtain ⟨⟨i, s⟩, hy⟩ : ∃ y, x[j]? = some y := ⟨_, List.getElem?_eq_getElem (by rw [← HM.out]; exact hjl)⟩
          obtain ⟨b2, off2, B2, C2, rfl, hb2, _, hi2, _, hc2⟩ := row_at (Kd.below HL.out hnq) hy
          obtain ⟨rfl, g0, g1⟩ := kScored_open hi2
          have D0 : wr.cell? ⟨b2, off2 + j * 2, none⟩ = some (.int .i64 i) := (hc2 0 _ rfl).1
          have D1 : wr.cell? ⟨b2, off2 + j * 2 + 1, none⟩ = some (.int .i64 s) := (hc2 1 _ rfl).1
          have j0 : (0 : Int) ≤ (j : Int) := by omega
          have j1 : (j : Int) < (m : Int) := by omega
          have HY : Hid (x[j]? = some (i, s)) := hy
          obtain ⟨R2, hR2⟩ : ∃ R2, R2 = (rkOk (x.take (j + 1)) (x.drop (j + 1)) && (decide (m ≤ 60) && R)) := ⟨_, rfl⟩
          have HR2 : Hid (R2 = (rkOk (x.take (j + 1)) (x.drop (j + 1)) && (decide (m ≤ 60) && R))) := hR2
          have HJ1 : Hid ((scOk (i, s) && (lastA (x.take j) (i, s) && (noId (x.take j) i && R2))) = q) := by
            have := HJ.out
            rw [rk_drop hy] at this
            simp only [Bool.and_assoc] at this
            show _ = _
            rw [hR2, ← this]
          obtain ⟨W2, hW2⟩ : ∃ W2, W2 = wr.alloc (.cells #[.int .i64 i, .int .i64 s] 60) := ⟨_, rfl⟩
          have B2 : Below wr.heap.size wr W2 := by rw [hW2]; exact below_a1r _ _
          have HB2 : Hid (Below w.heap.size w W2) := HBQ.out.trans (B2.mono HBQ.out.size)
          have HBJ : Hid (Below W1.heap.size W1 W2) := hnq.trans (B2.mono hnq.size)
          have Z1 := cell_later B2 Y1
          have E0 : W2.cell? ⟨wr.heap.size, 0, none⟩ = some (.int .i64 i) := by rw [hW2]; simp [go_sem]
          have E1 : W2.cell? ⟨wr.heap.size, 1, none⟩ = some (.int .i64 s) := by rw [hW2]; simp [go_sem]
          have HRT : Hid ((kRow kScored).is false W2 T [.slice (some ⟨b2, off2, none⟩) j lc] (x.take j)) := Kd.below (row_take HL.out hj) HBJ.out
          have HSC : Hid (scOk (i, s) = decide ((1 ≤ s ∧ s ≤ 1000000) ∧ (0 ≤ i ∧ i ≤ 1000))) := rfl
          have hz : (wr.heap.size : Int) ≤ (wr.heap.size : Int) := Int.le_refl _
          clear hc2 hi2 hy HJ hnq B2 hR2
          by_cases c1 : 1 ≤ s ∧ s ≤ 1000000
          · have HC1 : Hid (∀ w, Calls Try.prog 59 #[.int .i64 s, .int .i64 1, .int .i64 1000000] w fun e w' => e = .returned (.bool true) ∧ w' = w) := fun w => l1In_is w (decide_eq_true c1)
            by_cases c2 : 0 ≤ i ∧ i ≤ 1000
            · have HC2 : Hid (∀ w, Calls Try.prog 59 #[.int .i64 i, .int .i64 0, .int .i64 1000] w fun e w' => e = .returned (.bool true) ∧ w' = w) := fun w => l1In_is w (decide_eq_true c2)
              have HJ2 : Hid ((lastA (x.take j) (i, s) && (noId (x.take j) i && R2)) = q) := by have := HJ1.out; rw [HSC.out, decide_eq_true ⟨c1, c2⟩] at this; exact this
              clear c1 c2 HJ1 HSC
              go_wp2_with fail
              refine (HC1.out _).mono ?_
              rintro e w' ⟨rfl, rfl⟩
              go_wp2_with fail
              refine (HC2.out _).mono ?_
              rintro e w' ⟨rfl, rfl⟩
              go_wp2_with fail
              rw [← hW2]
              clear hW2 HC1 HC2
              have U0 : ∀ p : BelowOf W2, p.v.cell? _ = some _ := BelowOf.cell Z1
              have U1 : ∀ p : BelowOf W2, p.v.cell? _ = some _ := BelowOf.cell E0
              have U2 : ∀ p : BelowOf W2, p.v.cell? _ = some _ := BelowOf.cell E1
              have hne := belowOf_ne W2
              by_cases jz : j = 0
              · have HJ3 : Hid ((noId (x.take j) i && R2) = q) := by have := HJ2.out; rw [show lastA (x.take j) (i, s) = true by rw [jz]; rfl, Bool.true_and] at this; exact this
                have kpb : decide (0 < j) = false := decide_eq_false (by omega)
                clear jz HJ2
                refine region_below (by kernel_rfl) (by kernel_rfl) ?_
                repeat (go_big_quiet_step (fail))
                refine wpQuiet_nil (belowOf_all ?_)
                intro w3 hb3
                have F0 := cell_later hb3 Z1
                have F1 := cell_later hb3 E0
                have F2 := cell_later hb3 E1
                have H3 : Hid (Below W2.heap.size W2 w3) := hb3
                clear hb3 U0 U1 U2 Z1 E0 E1 hne kpb
                have HRT3 : Hid ((kRow kScored).is false w3 T [.slice (some ⟨b2, off2, none⟩) j lc] (x.take j)) := Kd.below HRT.out H3.out
                have HB3 : Hid (Below w.heap.size w w3) := HB2.out.trans (H3.out.mono HB2.out.size)
                have HBK : Hid (Below W1.heap.size W1 w3) := HBJ.out.trans (H3.out.mono HBJ.out.size)
                have HN0 : Hid ((noId ((x.take j).drop 0) i && R2) = q) := HJ3
                have jc : (j : Int) ≤ (lc : Int) := by omega
                clear HJ3
                go_wp2_with fail
                go_loopw [51] (fun pv wp => ∃ (p : Nat), p ≤ j ∧ pv = .int .i64 p ∧ Hid ((noId ((x.take j).drop p) i && R2) = q) ∧ Below w3.heap.size w3 wp) (fun pv _ => j - (intOf pv).toNat)
                case atStart => exact ⟨0, Nat.zero_le _, rfl, HN0, Below.refl _ _⟩
                case round =>
                  obtain ⟨p, hp, rfl, HP, hnp⟩ := hrel
                  have HBP : Hid (Below w.heap.size w wr) := HB3.out.trans (hnp.mono HB3.out.size)
                  have HBPK : Hid (Below W1.heap.size W1 wr) := HBK.out.trans (hnp.mono HBK.out.size)
                  have G0 := cell_later hnp F0
                  have G1 := cell_later hnp F1
                  have G2 := cell_later hnp F2
                  have zp := hnp.size
                  by_cases hpj : p < j
                  · obtain ⟨⟨u, v⟩, hu⟩ : ∃ y, (x.take j)[p]? = some y := ⟨_, List.getElem?_eq_getElem (by rw [List.length_take, ← HM.out]; omega)⟩
                    obtain ⟨b4, off4, B4, C4, hab4, hb4, _, hi4, _, hc4⟩ := row_at (Kd.below HRT3.out hnp) hu
                    obtain ⟨rfl, g4, g5⟩ := kScored_open hi4
                    obtain ⟨rfl, rfl⟩ : b2 = b4 ∧ off2 = off4 := by injection hab4 with e; injection e with e1 e2; exact ⟨e1, e2⟩
                    have I0 : wr.cell? ⟨b2, off2 + p * 2, none⟩ = some (.int .i64 u) := (hc4 0 _ rfl).1
                    have I1 : wr.cell? ⟨b2, off2 + p * 2 + 1, none⟩ = some (.int .i64 v) := (hc4 1 _ rfl).1
                    have G3 := cell_later (below_a1r wr (.cells #[.int .i64 u, .int .i64 v] 60)) G1
                    have p0 : (0 : Int) ≤ (p : Int) := by omega
                    have p1 : (p : Int) < (j : Int) := by omega
                    have HP1 : Hid (((!decide (u = i) && noId ((x.take j).drop (p + 1)) i) && R2) = q) := by have := HP.out; rw [noId_drop hu] at this; exact this
                    clear hc4 hi4 hu hab4 hb4 HP
                    by_cases hui : u = i
                    · have HF : Hid (q = false) := by have := HP1.out; rw [decide_eq_true hui] at this; exact this.symm
                      subst hui
                      clear HP1
                      go_wp2
                      go_ret
                      exact ⟨by rw [HF.out]; rfl, HBP.out.alloc (by have := HBP.out.size; omega) _⟩
                    · have HP2 : Hid ((noId ((x.take j).drop (p + 1)) i && R2) = q) := by have := HP1.out; rw [decide_eq_false hui] at this; exact this
                      have hui' : (u == i) = false := by simpa using hui
                      clear HP1
                      go_wp2
                      go_roundw
                      case rel => exact ⟨p + 1, by omega, by go_num, HP2, hnp.alloc (by omega) _⟩
                      case measure => simp [intOf]; omega
                  · have p1 : ¬ (p : Int) < (j : Int) := by omega
                    have HE : Hid ((rkOk (x.take (j + 1)) (x.drop (j + 1)) && (decide (m ≤ 60) && R)) = q) := by
                      have := HP.out
                      rw [List.drop_eq_nil_of_le (by rw [List.length_take]; omega), noId, Bool.true_and, HR2.out] at this
                      exact this
                    clear HP
                    go_wp2
                    go_roundw
                    case rel => exact ⟨j + 1, by omega, by go_num, HE, HBPK.out⟩
                    case measure => simp [intOf]; omega
              · obtain ⟨j', hj'⟩ : ∃ j', j = j' + 1 := ⟨j - 1, by omega⟩
                obtain ⟨⟨i', s'⟩, hy'⟩ : ∃ y, x[j']? = some y := ⟨_, List.getElem?_eq_getElem (by rw [← HM.out]; omega)⟩
                obtain ⟨b5, off5, B5, C5, hab5, hb5, _, hi5, _, hc5⟩ := row_at (Kd.below HL.out HBJ.out) hy'
                obtain ⟨rfl, g6, g7⟩ := kScored_open hi5
                obtain ⟨rfl, rfl⟩ : b2 = b5 ∧ off2 = off5 := by injection hab5 with e; injection e with e1 e2; exact ⟨e1, e2⟩
                have U3 : ∀ p : BelowOf W2, p.v.cell? ⟨b2, off2 + j' * 2, none⟩ = some (.int .i64 i') := BelowOf.cell (hc5 0 _ rfl).1
                have U4 : ∀ p : BelowOf W2, p.v.cell? ⟨b2, off2 + j' * 2 + 1, none⟩ = some (.int .i64 s') := BelowOf.cell (hc5 1 _ rfl).1
                have HLA : Hid (lastA (x.take j) (i, s) = ahd (i', s') (i, s)) := by show _ = _; rw [hj']; exact lastA_at hy' (i, s)
                have HLS : Hid (∀ w, Calls Try.prog 71 #[.agg #[.int .i64 i', .int .i64 s'], .agg #[.int .i64 i, .int .i64 s]] w fun e w' => e = .returned (.bool (ahd (i', s') (i, s))) ∧ Below w.heap.size w w') := l11Less_k i' s' i s
                have jn : (j : Int) - 1 = (j' : Int) := by omega
                have kpb : decide (0 < j) = true := decide_eq_true (by omega)
                have j2 : (j' : Int) < (m : Int) := by omega
                have j3 : (0 : Int) ≤ (j' : Int) := by omega
                clear hc5 hi5 hy' hab5 hb5 hj' jz
                cases hah : ahd (i', s') (i, s) with
                | false =>
                  have HF : Hid (q = false) := by have := HJ2.out; rw [HLA.out, hah] at this; exact this.symm
                  rw [hah] at HLS
                  clear hah HJ2 HLA
                  refine region_below (by kernel_rfl) (by kernel_rfl) ?_
                  repeat (go_big_quiet_step (first | (go_at_call 71; exact BelowOf.calls (HLS.out _))))
                  refine wpQuiet_nil (belowOf_all ?_)
                  intro w3 hb3
                  go_wp2
                  go_ret
                  exact ⟨by rw [HF.out]; rfl, HB2.out.trans (hb3.mono HB2.out.size)⟩
                | true =>
                  have HJ3 : Hid ((noId (x.take j) i && R2) = q) := by have := HJ2.out; rw [HLA.out, hah] at this; exact this
                  rw [hah] at HLS
                  clear hah HJ2 HLA
                  refine region_below (by kernel_rfl) (by kernel_rfl) ?_
                  repeat (go_big_quiet_step (first | (go_at_call 71; exact BelowOf.calls (HLS.out _))))
                  refine wpQuiet_nil (belowOf_all ?_)
                  intro w3 hb3
                  have F0 := cell_later hb3 Z1
                  have F1 := cell_later hb3 E0
                  have F2 := cell_later hb3 E1
                  have H3 : Hid (Below W2.heap.size W2 w3) := hb3
                  clear hb3 U0 U1 U2 U3 U4 Z1 E0 E1 hne kpb
                  have HRT3 : Hid ((kRow kScored).is false w3 T [.slice (some ⟨b2, off2, none⟩) j lc] (x.take j)) := Kd.below HRT.out H3.out
                  have HB3 : Hid (Below w.heap.size w w3) := HB2.out.trans (H3.out.mono HB2.out.size)
                  have HBK : Hid (Below W1.heap.size W1 w3) := HBJ.out.trans (H3.out.mono HBJ.out.size)
                  have HN0 : Hid ((noId ((x.take j).drop 0) i && R2) = q) := HJ3
                  have jc : (j : Int) ≤ (lc : Int) := by omega
                  clear HJ3
                  go_wp2_with fail
                  go_loopw [51] (fun pv wp => ∃ (p : Nat), p ≤ j ∧ pv = .int .i64 p ∧ Hid ((noId ((x.take j).drop p) i && R2) = q) ∧ Below w3.heap.size w3 wp) (fun pv _ => j - (intOf pv).toNat)
                  case atStart => exact ⟨0, Nat.zero_le _, rfl, HN0, Below.refl _ _⟩
                  case round =>
                    obtain ⟨p, hp, rfl, HP, hnp⟩ := hrel
                    have HBP : Hid (Below w.heap.size w wr) := HB3.out.trans (hnp.mono HB3.out.size)
                    have HBPK : Hid (Below W1.heap.size W1 wr) := HBK.out.trans (hnp.mono HBK.out.size)
                    have G0 := cell_later hnp F0
                    have G1 := cell_later hnp F1
                    have G2 := cell_later hnp F2
                    have zp := hnp.size
                    by_cases hpj : p < j
                    · obtain ⟨⟨u, v⟩, hu⟩ : ∃ y, (x.take j)[p]? = some y := ⟨_, List.getElem?_eq_getElem (by rw [List.length_take, ← HM.out]; omega)⟩
                      obtain ⟨b4, off4, B4, C4, hab4, hb4, _, hi4, _, hc4⟩ := row_at (Kd.below HRT3.out hnp) hu
                      obtain ⟨rfl, g4, g5⟩ := kScored_open hi4
                      obtain ⟨rfl, rfl⟩ : b2 = b4 ∧ off2 = off4 := by injection hab4 with e; injection e with e1 e2; exact ⟨e1, e2⟩
                      have I0 : wr.cell? ⟨b2, off2 + p * 2, none⟩ = some (.int .i64 u) := (hc4 0 _ rfl).1
                      have I1 : wr.cell? ⟨b2, off2 + p * 2 + 1, none⟩ = some (.int .i64 v) := (hc4 1 _ rfl).1
                      have G3 := cell_later (below_a1r wr (.cells #[.int .i64 u, .int .i64 v] 60)) G1
                      have p0 : (0 : Int) ≤ (p : Int) := by omega
                      have p1 : (p : Int) < (j : Int) := by omega
                      have HP1 : Hid (((!decide (u = i) && noId ((x.take j).drop (p + 1)) i) && R2) = q) := by have := HP.out; rw [noId_drop hu] at this; exact this
                      clear hc4 hi4 hu hab4 hb4 HP
                      by_cases hui : u = i
                      · have HF : Hid (q = false) := by have := HP1.out; rw [decide_eq_true hui] at this; exact this.symm
                        subst hui
                        clear HP1
                        go_wp2
                        go_ret
                        exact ⟨by rw [HF.out]; rfl, HBP.out.alloc (by have := HBP.out.size; omega) _⟩
                      · have HP2 : Hid ((noId ((x.take j).drop (p + 1)) i && R2) = q) := by have := HP1.out; rw [decide_eq_false hui] at this; exact this
                        have hui' : (u == i) = false := by simpa using hui
                        clear HP1
                        go_wp2
                        go_roundw
                        case rel => exact ⟨p + 1, by omega, by go_num, HP2, hnp.alloc (by omega) _⟩
                        case measure => simp [intOf]; omega
                    · have p1 : ¬ (p : Int) < (j : Int) := by omega
                      have HE : Hid ((rkOk (x.take (j + 1)) (x.drop (j + 1)) && (decide (m ≤ 60) && R)) = q) := by
                        have := HP.out
                        rw [List.drop_eq_nil_of_le (by rw [List.length_take]; omega), noId, Bool.true_and, HR2.out] at this
                        exact this
                      clear HP
                      go_wp2
                      go_roundw
                      case rel => exact ⟨j + 1, by omega, by go_num, HE, HBPK.out⟩
                      case measure => simp [intOf]; omega
            · have HC2 : Hid (∀ w, Calls Try.prog 59 #[.int .i64 i, .int .i64 0, .int .i64 1000] w fun e w' => e = .returned (.bool false) ∧ w' = w) := fun w => l1In_is w (decide_eq_false c2)
              have HF : Hid (q = false) := by have := HJ1.out; rw [HSC.out, decide_eq_false (fun h => c2 h.2)] at this; exact this.symm
              clear c1 c2 HJ1 HSC
              go_wp2_with fail
              refine (HC1.out _).mono ?_
              rintro e w' ⟨rfl, rfl⟩
              go_wp2_with fail
              refine (HC2.out _).mono ?_
              rintro e w' ⟨rfl, rfl⟩
              go_wp2
              go_ret
              exact ⟨by rw [HF.out]; rfl, by rw [← hW2]; exact HB2.out⟩
          · have HC1 : Hid (∀ w, Calls Try.prog 59 #[.int .i64 s, .int .i64 1, .int .i64 1000000] w fun e w' => e = .returned (.bool false) ∧ w' = w) := fun w => l1In_is w (decide_eq_false c1)
            have HF : Hid (q = false) := by have := HJ1.out; rw [HSC.out, decide_eq_false (fun h => c1 h.1)] at this; exact this.symm
            clear c1 HJ1 HSC
            go_wp2_with fail
            refine (HC1.out _).mono ?_
            rintro e w' ⟨rfl, rfl⟩
            go_wp2
            go_ret
            exact ⟨by rw [HF.out]; rfl, by rw [← hW2]; exact HB2.out⟩
        · have j1 : ¬ (j : Int) < (m : Int) := by omega
          have HE : Hid ((decide (m ≤ 60) && R) = q) := by
            have := HJ.out
            rw [show j = x.length by rw [← HM.out]; omega, List.drop_length, rkOk] at this
            exact this
          clear HJ
          by_cases c60 : (60 : Int) < (m : Int)
          · have HF : Hid (q = false) := by have := HE.out; rw [decide_eq_false (by omega)] at this; exact this.symm
            clear HE
            go_wp2
            go_ret
            exact ⟨by rw [HF.out]; rfl, HBQ.out⟩
          · have HG : Hid (((x0.drop (k + 1)).all rkGood && decide (x0.length ≤ 5)) = q) := by have := HE.out; rw [decide_eq_true (by omega), Bool.true_and, HR.out] at this; exact this
            clear HE
            go_wp2
            go_roundw
            case rel => exact ⟨k + 1, by omega, by go_num, HG, HBQ.out⟩
            case measure => simp [intOf]; omega
    · have i1 : ¬ (k : Int) < (n0 : Int) := by omega
      have HE : Hid (decide (n0 ≤ 5) = q) := by
        have := HI.out
        rw [show k = x0.length by rw [← HNL.out]; omega, List.drop_length, ← HNL.out] at this
        exact this
      by_cases c5 : (n0 : Int) ≤ 5
      · have HF : Hid (q = true) := by have := HE.out; rw [decide_eq_true (by omega)] at this; exact this.symm
        clear HE
        go_wp2
        go_ret
        exact ⟨by rw [HF.out]; rfl, hnx⟩
      · have HF : Hid (q = false) := by have := HE.out; rw [decide_eq_false (by omega)] at this; exact this.symm
        clear HE
        go_wp2
        go_ret
        exact ⟨by rw [HF.out]; rfl, hnx⟩
end Go.Proofs.Ytikgcgfigcolmaa
namespace Go.Proofs.Ytikgcgfigcolmaa
open Go.RowKit
set_option linter.unusedVariables false

theorem ahd_iff (a b : DScored) : ahd a b = true ↔ (b.2 < a.2 ∨ (a.2 = b.2 ∧ a.1 < b.1)) := by unfold ahd; simp
theorem ahd_irr (a : DScored) : ¬ ahd a a = true := by rw [ahd_iff]; omega
theorem ahd_trans {a b c : DScored} (h : ahd a b = true) (k : ahd b c = true) : ahd a c = true := by rw [ahd_iff] at *; omega
theorem ahd_asymm {a b : DScored} (h : ahd a b = true) : ¬ ahd b a = true := by rw [ahd_iff] at *; omega
theorem ahd_total {a b : DScored} (h : a.1 ≠ b.1) (k : ¬ ahd a b = true) : ahd b a = true := by rw [ahd_iff] at *; omega

/-- They stand in their order. -/
def Srt (l : List DScored) : Prop := l.Pairwise fun a b => ahd a b = true
/-- Two lists in their order with the same ones are one. -/
theorem srt_unique : ∀ (l m : List DScored), Srt l → Srt m → (∀ x, x ∈ l ↔ x ∈ m) → l = m
  | [], [], _, _, _ => rfl
  | [], b :: m, _, _, h => by have := (h b).2 (by simp); simp at this
  | a :: l, [], _, _, h => by have := (h a).1 (by simp); simp at this
  | a :: l, b :: m, hl, hm, h => by
    have hl' := List.pairwise_cons.1 hl
    have hm' := List.pairwise_cons.1 hm
    have hab : a = b := by
      rcases List.mem_cons.1 ((h a).1 (by simp)) with e | e
      · exact e
      · rcases List.mem_cons.1 ((h b).2 (by simp)) with e' | e'
        · exact e'.symm
        · exact absurd (hm'.1 a e) (ahd_asymm (hl'.1 b e'))
    subst hab
    rw [srt_unique l m hl'.2 hm'.2 fun x => ?_]
    constructor
    · intro hx
      rcases List.mem_cons.1 ((h x).1 (by simp [hx])) with e | e
      · subst e; exact absurd (hl'.1 x hx) (ahd_irr x)
      · exact e
    · intro hx
      rcases List.mem_cons.1 ((h x).2 (by simp [hx])) with e | e
      · subst e; exact absurd (hm'.1 x hx) (ahd_irr x)
      · exact e

/-- How many stand ahead at the front. -/
def posL : List DScored → DScored → Nat
  | [], _ => 0
  | y :: r, s => if ahd y s = true then posL r s + 1 else 0
/-- One put to its place. -/
def insL : List DScored → DScored → List DScored
  | [], s => [s]
  | y :: r, s => if ahd y s = true then y :: insL r s else s :: y :: r
/-- One put to its place, once. -/
def putL (l : List DScored) (s : DScored) : List DScored := if noId l s.1 = true then insL l s else l
theorem insL_is : ∀ (l : List DScored) (s : DScored), insL l s = l.take (posL l s) ++ s :: l.drop (posL l s)
  | [], s => rfl
  | y :: r, s => by
    rw [insL, posL]
    split
    · rw [insL_is r s]; rfl
    · rfl
theorem posL_le : ∀ (l : List DScored) (s : DScored), posL l s ≤ l.length
  | [], s => Nat.le_refl _
  | y :: r, s => by
    rw [posL]
    have := posL_le r s
    split
    · simp; exact this
    · simp
theorem posL_drop {l : List DScored} {k : Nat} {x : DScored} (h : l[k]? = some x) (s : DScored) : posL (l.drop k) s = if ahd x s = true then posL (l.drop (k + 1)) s + 1 else 0 := by
  have hk := (List.getElem?_eq_some_iff.1 h)
  rw [List.drop_eq_getElem_cons hk.1, hk.2, posL]
theorem insL_length : ∀ (l : List DScored) (s : DScored), (insL l s).length = l.length + 1
  | [], s => rfl
  | y :: r, s => by
    rw [insL]
    split
    · simp [insL_length r s]
    · rfl
theorem insL_mem : ∀ (l : List DScored) (s x : DScored), x ∈ insL l s ↔ x = s ∨ x ∈ l
  | [], s, x => by simp [insL]
  | y :: r, s, x => by
    rw [insL]
    split
    · simp only [List.mem_cons, insL_mem r s x]
      constructor
      · rintro (h | h | h) <;> simp [h]
      · rintro (h | h | h) <;> simp [h]
    · simp [List.mem_cons]
theorem insL_srt : ∀ (l : List DScored) (s : DScored), noId l s.1 = true → Srt l → Srt (insL l s)
  | [], s, _, _ => by simp [insL, Srt]
  | y :: r, s, hn, h => by
    have h' := List.pairwise_cons.1 h
    have hn' := (noId_iff _ _).1 hn
    rw [insL]
    split
    · rename_i hy
      refine List.pairwise_cons.2 ⟨fun z hz => ?_, insL_srt r s ((noId_iff _ _).2 fun z hz => hn' z (by simp [hz])) h'.2⟩
      rcases (insL_mem r s z).1 hz with rfl | hz
      · exact hy
      · exact h'.1 z hz
    · rename_i hy
      have hsy : ahd s y = true := ahd_total (hn' y (by simp)) hy
      refine List.pairwise_cons.2 ⟨fun z hz => ?_, h⟩
      rcases List.mem_cons.1 hz with rfl | hz
      · exact hsy
      · exact ahd_trans hsy (h'.1 z hz)
theorem putL_srt {l : List DScored} (s : DScored) (h : Srt l) : Srt (putL l s) := by
  unfold putL
  split
  · rename_i hn; exact insL_srt l s hn h
  · exact h
theorem putL_length (l : List DScored) (s : DScored) : (putL l s).length ≤ l.length + 1 := by
  unfold putL
  split
  · rw [insL_length]; exact Nat.le_refl _
  · omega
/-- Put all, one behind the other. -/
def putAll (l : List DScored) (ss : List DScored) : List DScored := ss.foldl putL l
theorem putAll_length : ∀ (ss l : List DScored), (putAll l ss).length ≤ l.length + ss.length
  | [], l => by simp [putAll]
  | s :: r, l => by
    have := putAll_length r (putL l s)
    have h2 := putL_length l s
    simp only [putAll, List.foldl_cons, List.length_cons] at *
    omega
theorem putAll_srt : ∀ (ss l : List DScored), Srt l → Srt (putAll l ss)
  | [], l, h => h
  | s :: r, l, h => putAll_srt r (putL l s) (putL_srt s h)
theorem putAll_append (l a b : List DScored) : putAll l (a ++ b) = putAll (putAll l a) b := by simp [putAll]
theorem srt_nil : Srt [] := List.Pairwise.nil
/-- Each has its own sum. -/
def Sums (f : Int → Int) (l : List DScored) : Prop := ∀ x ∈ l, x.2 = f x.1
theorem putL_sums {f : Int → Int} {l : List DScored} (i : Int) (h : Sums f l) : Sums f (putL l (i, f i)) := by
  unfold putL
  split
  · intro x hx
    rcases (insL_mem _ _ _).1 hx with rfl | hx
    · rfl
    · exact h x hx
  · exact h
theorem putL_mem {f : Int → Int} {l : List DScored} (i : Int) (h : Sums f l) (x : DScored) : x ∈ putL l (i, f i) ↔ x = (i, f i) ∨ x ∈ l := by
  unfold putL
  split
  · exact insL_mem _ _ _
  · rename_i hn
    constructor
    · exact .inr
    · rintro (rfl | hx)
      · cases e : noId l i with
        | true => exact absurd e hn
        | false =>
          obtain ⟨y, hy, h1, _⟩ := scoreL_mem l i e
          have := h y hy
          rw [h1] at this
          have e2 : y = (i, f i) := Prod.ext h1 this
          exact e2 ▸ hy
      · exact hx
/-- Put ids, with their sums. -/
def putIds (f : Int → Int) (l : List DScored) (is : List Int) : List DScored := putAll l (is.map fun i => (i, f i))
theorem putIds_cons (f : Int → Int) (l : List DScored) (i : Int) (is : List Int) : putIds f l (i :: is) = putIds f (putL l (i, f i)) is := rfl
theorem putIds_append (f : Int → Int) (l : List DScored) (a b : List Int) : putIds f l (a ++ b) = putIds f (putIds f l a) b := by
  unfold putIds
  rw [List.map_append, putAll_append]
theorem putIds_sums {f : Int → Int} : ∀ (is : List Int) (l : List DScored), Sums f l → Sums f (putIds f l is)
  | [], l, h => h
  | i :: r, l, h => by rw [putIds_cons]; exact putIds_sums r _ (putL_sums i h)
theorem putIds_mem {f : Int → Int} : ∀ (is : List Int) (l : List DScored), Sums f l → ∀ x, x ∈ putIds f l is ↔ x ∈ l ∨ (x.1 ∈ is ∧ x.2 = f x.1)
  | [], l, h, x => by simp [putIds, putAll]
  | i :: r, l, h, x => by
    rw [putIds_cons, putIds_mem r _ (putL_sums i h), putL_mem i h]
    constructor
    · rintro ((rfl | h1) | h1)
      · exact .inr ⟨by simp, rfl⟩
      · exact .inl h1
      · exact .inr ⟨by simp [h1.1], h1.2⟩
    · rintro (h1 | ⟨h1, h2⟩)
      · exact .inl (.inr h1)
      · rcases List.mem_cons.1 h1 with e | e
        · exact .inl (.inl (Prod.ext e (by rw [h2, e])))
        · exact .inr ⟨e, h2⟩
theorem putIds_srt (f : Int → Int) (is : List Int) (l : List DScored) (h : Srt l) : Srt (putIds f l is) := putAll_srt _ _ h
theorem putIds_length (f : Int → Int) (is : List Int) (l : List DScored) : (putIds f l is).length ≤ l.length + is.length := by
  have := putAll_length (is.map fun i => (i, f i)) l
  simpa [putIds] using this
/-- What is put hangs on the ids alone, not on their order. -/
theorem putIds_same {f : Int → Int} {a b : List Int} (h : ∀ i, i ∈ a ↔ i ∈ b) : putIds f [] a = putIds f [] b := by
  have hs : Sums f [] := fun x hx => by simp at hx
  refine srt_unique _ _ (putIds_srt f a _ srt_nil) (putIds_srt f b _ srt_nil) fun x => ?_
  rw [putIds_mem a _ hs, putIds_mem b _ hs, h]

/-- One met anew put behind, one met again not. -/
def meetL (l : List DScored) (s : DScored) : List DScored := if noId l s.1 = true then l ++ [s] else l
def meetIds (f : Int → Int) (l : List DScored) (is : List Int) : List DScored := (is.map fun i => (i, f i)).foldl meetL l
theorem meetIds_cons (f : Int → Int) (l : List DScored) (i : Int) (is : List Int) : meetIds f l (i :: is) = meetIds f (meetL l (i, f i)) is := rfl
theorem meetIds_append (f : Int → Int) (l : List DScored) (a b : List Int) : meetIds f l (a ++ b) = meetIds f (meetIds f l a) b := by simp [meetIds]
theorem meetL_sums {f : Int → Int} {l : List DScored} (i : Int) (h : Sums f l) : Sums f (meetL l (i, f i)) := by
  unfold meetL
  split
  · intro x hx
    rcases List.mem_append.1 hx with hx | hx
    · exact h x hx
    · obtain rfl : x = (i, f i) := by simpa using hx
      rfl
  · exact h
theorem meetL_mem {f : Int → Int} {l : List DScored} (i : Int) (h : Sums f l) (x : DScored) : x ∈ meetL l (i, f i) ↔ x = (i, f i) ∨ x ∈ l := by
  unfold meetL
  split
  · rw [List.mem_append]
    constructor
    · rintro (h1 | h1)
      · exact .inr h1
      · exact .inl (by simpa using h1)
    · rintro (h1 | h1)
      · exact .inr (by simp [h1])
      · exact .inl h1
  · rename_i hn
    constructor
    · exact .inr
    · rintro (rfl | hx)
      · cases e : noId l i with
        | true => exact absurd e hn
        | false =>
          obtain ⟨y, hy, h1, _⟩ := scoreL_mem l i e
          have := h y hy
          rw [h1] at this
          have e2 : y = (i, f i) := Prod.ext h1 this
          exact e2 ▸ hy
      · exact hx
theorem meetIds_sums {f : Int → Int} : ∀ (is : List Int) (l : List DScored), Sums f l → Sums f (meetIds f l is)
  | [], l, h => h
  | i :: r, l, h => by rw [meetIds_cons]; exact meetIds_sums r _ (meetL_sums i h)
theorem meetIds_mem {f : Int → Int} : ∀ (is : List Int) (l : List DScored), Sums f l → ∀ x, x ∈ meetIds f l is ↔ x ∈ l ∨ (x.1 ∈ is ∧ x.2 = f x.1)
  | [], l, h, x => by simp [meetIds]
  | i :: r, l, h, x => by
    rw [meetIds_cons, meetIds_mem r _ (meetL_sums i h), meetL_mem i h]
    constructor
    · rintro ((rfl | h1) | h1)
      · exact .inr ⟨by simp, rfl⟩
      · exact .inl h1
      · exact .inr ⟨by simp [h1.1], h1.2⟩
    · rintro (h1 | ⟨h1, h2⟩)
      · exact .inl (.inr h1)
      · rcases List.mem_cons.1 h1 with e | e
        · exact .inl (.inl (Prod.ext e (by rw [h2, e])))
        · exact .inr ⟨e, h2⟩
/-- No id twice. -/
def NoTwice (l : List DScored) : Prop := l.Pairwise fun a b => a.1 ≠ b.1
theorem meetL_once {l : List DScored} (s : DScored) (h : NoTwice l) : NoTwice (meetL l s) := by
  unfold meetL
  split
  · rename_i hn
    refine List.pairwise_append.2 ⟨h, by simp, fun a ha b hb => ?_⟩
    obtain rfl : b = s := by simpa using hb
    exact (noId_iff _ _).1 hn a ha
  · exact h
theorem meetIds_once {f : Int → Int} : ∀ (is : List Int) (l : List DScored), NoTwice l → NoTwice (meetIds f l is)
  | [], l, h => h
  | i :: r, l, h => by rw [meetIds_cons]; exact meetIds_once r _ (meetL_once _ h)
theorem meetL_length (l : List DScored) (s : DScored) : (meetL l s).length ≤ l.length + 1 := by
  unfold meetL
  split
  · simp
  · omega
theorem meetIds_length {f : Int → Int} : ∀ (is : List Int) (l : List DScored), (meetIds f l is).length ≤ l.length + is.length
  | [], l => by simp [meetIds]
  | i :: r, l => by
    have := meetIds_length (f := f) r (meetL l (i, f i))
    have h2 := meetL_length l (i, f i)
    rw [meetIds_cons]
    simp only [List.length_cons]
    omega
theorem NoTwice.inj {l : List DScored} (h : NoTwice l) {a b : DScored} (ha : a ∈ l) (hb : b ∈ l) (e : a.1 = b.1) : a = b := by
  unfold NoTwice at h
  induction l with
  | nil => simp at ha
  | cons x t ih =>
    have h' := List.pairwise_cons.1 h
    rcases List.mem_cons.1 ha with ea | ha2
    · rcases List.mem_cons.1 hb with eb | hb2
      · rw [ea, eb]
      · subst ea; exact absurd e (h'.1 b hb2)
    · rcases List.mem_cons.1 hb with eb | hb2
      · subst eb; exact absurd e.symm (h'.1 a ha2)
      · exact ih h'.2 ha2 hb2
end Go.Proofs.Ytikgcgfigcolmaa
namespace Go.Proofs.Ytikgcgfigcolmaa
open Go.RowKit
set_option linter.unusedVariables false

/-- What stands at a depth. -/
def atDp (ls : List DRanking) (d : Nat) : List DScored := ls.filterMap fun r => r[d]?
def idsAt (ls : List DRanking) (d : Nat) : List Int := (atDp ls d).map (·.1)
def sumSc : List DScored → Int
  | [] => 0
  | x :: r => x.2 + sumSc r
def thrD (ls : List DRanking) (d : Nat) : Int := sumSc (atDp ls d)
def idsTo (ls : List DRanking) : Nat → List Int
  | 0 => []
  | d + 1 => idsTo ls d ++ idsAt ls d
/-- The ids that were met, in their order. -/
def outD (ls : List DRanking) (d : Nat) : List DScored := putIds (sumL ls) [] (idsTo ls d)
def metD (ls : List DRanking) (d : Nat) : List DScored := meetIds (sumL ls) [] (idsTo ls d)
theorem outD_next (ls : List DRanking) (d : Nat) : outD ls (d + 1) = putIds (sumL ls) (outD ls d) (idsAt ls d) := by
  unfold outD
  rw [idsTo, putIds_append]
theorem metD_next (ls : List DRanking) (d : Nat) : metD ls (d + 1) = meetIds (sumL ls) (metD ls d) (idsAt ls d) := by
  unfold metD
  rw [idsTo, meetIds_append]
/-- How many are above. -/
def cntA : List DScored → Int → Nat
  | [], _ => 0
  | x :: r, t => (if t < x.2 then 1 else 0) + cntA r t
theorem cntA_append : ∀ (a b : List DScored) (t : Int), cntA (a ++ b) t = cntA a t + cntA b t
  | [], b, t => by simp [cntA]
  | x :: r, b, t => by simp only [List.cons_append, cntA, cntA_append r b t]; omega
theorem cntA_le : ∀ (l : List DScored) (t : Int), cntA l t ≤ l.length
  | [], t => Nat.le_refl _
  | x :: r, t => by
    have := cntA_le r t
    simp only [cntA, List.length_cons]
    split <;> omega
theorem cntA_perm {a b : List DScored} (h : a.Perm b) (t : Int) : cntA a t = cntA b t := by
  induction h with
  | nil => rfl
  | cons x _ ih => simp only [cntA, ih]
  | swap x y l => simp only [cntA]; omega
  | trans _ _ h1 h2 => exact h1.trans h2
theorem insL_perm : ∀ (l : List DScored) (s : DScored), (insL l s).Perm (s :: l)
  | [], s => List.Perm.refl _
  | y :: r, s => by
    rw [insL]
    split
    · exact ((insL_perm r s).cons y).trans (List.Perm.swap _ _ _)
    · exact List.Perm.refl _
theorem noId_perm {a b : List DScored} (h : a.Perm b) (i : Int) : noId a i = noId b i := by
  cases e : noId b i with
  | true => exact (noId_iff _ _).2 fun y hy => (noId_iff _ _).1 e y (h.mem_iff.1 hy)
  | false =>
    obtain ⟨y, hy, h1, _⟩ := scoreL_mem b i e
    exact noId_false (h.mem_iff.2 hy) h1
theorem meetL_perm {a b : List DScored} (h : a.Perm b) (s : DScored) : (meetL a s).Perm (putL b s) := by
  unfold meetL putL
  rw [noId_perm h]
  split
  · exact (List.perm_append_singleton s a).trans ((h.cons s).trans (insL_perm b s).symm)
  · exact h
theorem meetIds_perm {f : Int → Int} : ∀ (is : List Int) {a b : List DScored}, a.Perm b → (meetIds f a is).Perm (putIds f b is)
  | [], a, b, h => h
  | i :: r, a, b, h => by
    rw [meetIds_cons, putIds_cons]
    exact meetIds_perm r (meetL_perm h _)
theorem metD_perm (ls : List DRanking) (d : Nat) : (metD ls d).Perm (outD ls d) := meetIds_perm _ (List.Perm.refl _)
/-- What is sorted is what was put to its place. -/
theorem srt_perm {l m : List DScored} (hl : Srt l) (hm : Srt m) (h : l.Perm m) : l = m := srt_unique l m hl hm fun x => h.mem_iff

/-- The k-th is above. -/
def reach (l : List DScored) (k : Nat) (t : Int) : Bool := match l[k - 1]? with | none => false | some x => decide (t + 1 ≤ x.2)
theorem cntA_zero : ∀ (l : List DScored) (t : Int), (∀ x ∈ l, x.2 ≤ t) → cntA l t = 0
  | [], t, _ => rfl
  | x :: r, t, h => by
    have h1 := h x (by simp)
    rw [cntA, cntA_zero r t (fun y hy => h y (by simp [hy])), if_neg (by omega)]
theorem srt_le {x : DScored} {r : List DScored} (h : Srt (x :: r)) {y : DScored} (hy : y ∈ r) : y.2 ≤ x.2 := by
  have := (List.pairwise_cons.1 h).1 y hy
  rw [ahd_iff] at this
  omega
theorem reach_iff : ∀ (l : List DScored) (k : Nat) (t : Int), Srt l → 1 ≤ k → (reach l k t = true ↔ k ≤ cntA l t)
  | [], k, t, _, hk => by simp [reach, cntA]; omega
  | x :: r, k, t, h, hk => by
    have hr : Srt r := (List.pairwise_cons.1 h).2
    by_cases hx : t < x.2
    · rw [cntA, if_pos hx]
      by_cases k1 : k = 1
      · subst k1
        simp [reach]
        omega
      · have ih := reach_iff r (k - 1) t hr (by omega)
        have e : reach (x :: r) k t = reach r (k - 1) t := by
          unfold reach
          rw [show k - 1 = (k - 1 - 1) + 1 by omega, List.getElem?_cons_succ]
          rfl
        rw [e, ih]
        omega
    · have hz : cntA (x :: r) t = 0 := cntA_zero _ _ fun y hy => by
        rcases List.mem_cons.1 hy with rfl | hy
        · omega
        · have := srt_le h hy; omega
      rw [hz]
      constructor
      · intro e
        unfold reach at e
        split at e
        · simp at e
        · rename_i y hy
          have hm : y ∈ x :: r := List.mem_of_getElem? hy
          have h1 : t + 1 ≤ y.2 := by simpa using e
          rcases List.mem_cons.1 hm with rfl | hm
          · omega
          · have := srt_le h hm; omega
      · omega

/-- How far the specification goes, from depth d on, n depths at most. -/
def topD (ls : List DRanking) (k : Nat) : Nat → Nat → Nat
  | 0, d => d
  | n + 1, d => if atDp ls d = [] then d else if reach (outD ls (d + 1)) k (thrD ls d) = true then d + 1 else topD ls k n (d + 1)
/-- What the depth ahead told. -/
def thrB (ls : List DRanking) : Nat → Int
  | 0 => 0
  | d + 1 => thrD ls d
/-- How far the program goes. -/
def topI (ls : List DRanking) (k : Nat) : Nat → Nat → Nat
  | 0, d => d
  | n + 1, d => if k ≤ cntA (metD ls d) (thrB ls d) then d else if atDp ls d = [] then d else topI ls k n (d + 1)
theorem outD_srt (ls : List DRanking) (d : Nat) : Srt (outD ls d) := putIds_srt _ _ _ srt_nil
theorem top_same (ls : List DRanking) (k : Nat) (hk : 1 ≤ k) : ∀ n d, ¬ k ≤ cntA (metD ls d) (thrB ls d) → atDp ls (d + n) = [] → topI ls k (n + 1) d = topD ls k (n + 1) d
  | 0, d, h, he => by
    rw [topI, if_neg h, topD]
    simp only [Nat.add_zero] at he
    rw [if_pos he, if_pos he]
  | n + 1, d, h, he => by
    rw [topI, if_neg h, topD]
    by_cases e : atDp ls d = []
    · rw [if_pos e, if_pos e]
    · rw [if_neg e, if_neg e]
      have hr := reach_iff (outD ls (d + 1)) k (thrD ls d) (outD_srt _ _) hk
      have hc : cntA (metD ls (d + 1)) (thrB ls (d + 1)) = cntA (outD ls (d + 1)) (thrD ls d) := cntA_perm (metD_perm ls (d + 1)) _
      by_cases c : k ≤ cntA (metD ls (d + 1)) (thrB ls (d + 1))
      · rw [topI, if_pos c, if_pos (hr.2 (hc ▸ c))]
      · rw [if_neg (fun h => c (hc ▸ hr.1 h))]
        exact top_same ls k hk n (d + 1) c (by rw [show d + 1 + n = d + (n + 1) by omega]; exact he)
theorem atDp_none {ls : List DRanking} {d : Nat} (h : ∀ r ∈ ls, r.length ≤ d) : atDp ls d = [] := by
  unfold atDp
  rw [List.filterMap_eq_nil_iff]
  intro r hr
  exact List.getElem?_eq_none (h r hr)
theorem atDp_nil_iff {ls : List DRanking} {d : Nat} : atDp ls d = [] ↔ ∀ r ∈ ls, r.length ≤ d := by
  unfold atDp
  rw [List.filterMap_eq_nil_iff]
  constructor
  · intro h r hr
    have := h r hr
    simpa using this
  · intro h r hr
    exact List.getElem?_eq_none (h r hr)

/-- All ids, list by list. -/
def idsAll (ls : List DRanking) : List Int := ls.flatMap fun r => r.map (·.1)
theorem idsTo_mem {ls : List DRanking} {i : Int} : ∀ d, i ∈ idsTo ls d ↔ ∃ r ∈ ls, ∃ e x, e < d ∧ r[e]? = some x ∧ x.1 = i
  | 0 => by simp [idsTo]
  | d + 1 => by
    rw [idsTo, List.mem_append, idsTo_mem d]
    constructor
    · rintro (⟨r, hr, e, x, he, hx, hi⟩ | h)
      · exact ⟨r, hr, e, x, by omega, hx, hi⟩
      · unfold idsAt atDp at h
        obtain ⟨x, hx, hi⟩ := List.mem_map.1 h
        obtain ⟨r, hr, hx⟩ := List.mem_filterMap.1 hx
        exact ⟨r, hr, d, x, by omega, hx, hi⟩
    · rintro ⟨r, hr, e, x, he, hx, hi⟩
      by_cases c : e < d
      · exact .inl ⟨r, hr, e, x, c, hx, hi⟩
      · obtain rfl : e = d := by omega
        exact .inr (List.mem_map.2 ⟨x, List.mem_filterMap.2 ⟨r, hr, hx⟩, hi⟩)
theorem idsAll_mem {ls : List DRanking} {i : Int} : i ∈ idsAll ls ↔ ∃ r ∈ ls, ∃ x ∈ r, x.1 = i := by
  unfold idsAll
  rw [List.mem_flatMap]
  constructor
  · rintro ⟨r, hr, h⟩
    obtain ⟨x, hx, hi⟩ := List.mem_map.1 h
    exact ⟨r, hr, x, hx, hi⟩
  · rintro ⟨r, hr, x, hx, hi⟩
    exact ⟨r, hr, List.mem_map.2 ⟨x, hx, hi⟩⟩
theorem idsTo_all {ls : List DRanking} {d : Nat} (h : atDp ls d = []) (i : Int) : i ∈ idsTo ls d ↔ i ∈ idsAll ls := by
  rw [idsTo_mem, idsAll_mem]
  have h' := atDp_nil_iff.1 h
  constructor
  · rintro ⟨r, hr, e, x, he, hx, hi⟩
    exact ⟨r, hr, x, List.mem_of_getElem? hx, hi⟩
  · rintro ⟨r, hr, x, hx, hi⟩
    obtain ⟨e, he⟩ := List.getElem?_of_mem hx
    exact ⟨r, hr, e, x, by have := (List.getElem?_eq_some_iff.1 he).1; have := h' r hr; omega, he, hi⟩
/-- All best. -/
def allD (ls : List DRanking) : List DScored := putIds (sumL ls) [] (idsAll ls)
theorem outD_all {ls : List DRanking} {d : Nat} (h : atDp ls d = []) : outD ls d = allD ls := putIds_same (idsTo_all h)

/-- Lists fall. -/
def Falls (r : List DScored) : Prop := r.Pairwise fun a b => b.2 ≤ a.2
theorem falls_at : ∀ {r : List DScored}, Falls r → ∀ {e d : Nat} {x y : DScored}, d ≤ e → r[e]? = some x → r[d]? = some y → x.2 ≤ y.2
  | [], _, e, d, x, y, _, hx, _ => by simp at hx
  | z :: r, h, 0, 0, x, y, _, hx, hy => by
    rw [hx] at hy
    injection hy with hy
    rw [hy]; exact Int.le_refl _
  | z :: r, h, 0, d + 1, x, y, hd, _, _ => by omega
  | z :: r, h, e + 1, 0, x, y, _, hx, hy => by
    obtain rfl : z = y := by simpa using hy
    exact (List.pairwise_cons.1 h).1 x (List.mem_of_getElem? (by simpa using hx))
  | z :: r, h, e + 1, d + 1, x, y, hd, hx, hy => falls_at (List.pairwise_cons.1 h).2 (e := e) (d := d) (by omega) (by simpa using hx) (by simpa using hy)
/-- Who was not met has no more than the threshold. -/
theorem score_rest {r : List DScored} (hf : Falls r) (hp : ∀ y ∈ r, 1 ≤ y.2) {d : Nat} {i : Int} (h : ∀ e x, e < d + 1 → r[e]? = some x → x.1 ≠ i) : scoreL r i ≤ (match r[d]? with | none => 0 | some y => y.2) := by
  cases e : noId r i with
  | true =>
    rw [scoreL_no r i e]
    cases h2 : r[d]? with
    | none => exact Int.le_refl _
    | some y => have := hp y (List.mem_of_getElem? h2); show 0 ≤ y.2; omega
  | false =>
    obtain ⟨x, hx, h1, h2⟩ := scoreL_mem r i e
    obtain ⟨q, hq⟩ := List.getElem?_of_mem hx
    have hqd : ¬ q < d + 1 := fun c => h q x c hq h1
    have hql := (List.getElem?_eq_some_iff.1 hq).1
    cases h3 : r[d]? with
    | none => have := List.getElem?_eq_none_iff.1 h3; omega
    | some y => rw [h2]; exact falls_at hf (by omega) hq h3
theorem sum_rest : ∀ {ls : List DRanking}, (∀ r ∈ ls, Falls r ∧ ∀ y ∈ r, 1 ≤ y.2) → ∀ {d : Nat} {i : Int}, (∀ r ∈ ls, ∀ e x, e < d + 1 → r[e]? = some x → x.1 ≠ i) → sumL ls i ≤ thrD ls d
  | [], _, d, i, _ => Int.le_refl _
  | r :: t, hg, d, i, h => by
    have ih := sum_rest (ls := t) (fun q hq => hg q (by simp [hq])) (d := d) (i := i) (fun q hq => h q (by simp [hq]))
    have h1 := score_rest (hg r (by simp)).1 (hg r (by simp)).2 (d := d) (i := i) (h r (by simp))
    unfold thrD at ih ⊢
    have e : atDp (r :: t) d = (match r[d]? with | none => atDp t d | some y => y :: atDp t d) := by
      unfold atDp
      rw [List.filterMap_cons]
      cases r[d]? <;> rfl
    rw [e, sumL]
    cases h2 : r[d]? with
    | none => rw [h2] at h1; simp only at h1 ⊢; omega
    | some y => rw [h2] at h1; simp only [sumSc] at h1 ⊢; omega
theorem srt_append {a b : List DScored} (ha : Srt a) (hb : Srt b) (h : ∀ x ∈ a, ∀ y ∈ b, ahd x y = true) : Srt (a ++ b) := List.pairwise_append.2 ⟨ha, hb, h⟩
/-- The first k are those of all where the k-th is above the threshold. -/
theorem take_reach {ls : List DRanking} (hg : ∀ r ∈ ls, Falls r ∧ ∀ y ∈ r, 1 ≤ y.2) {d k : Nat} (hk : 1 ≤ k) (h : reach (outD ls (d + 1)) k (thrD ls d) = true) : (outD ls (d + 1)).take k = (allD ls).take k := by
  obtain ⟨o, ho⟩ : ∃ o, o = outD ls (d + 1) := ⟨_, rfl⟩
  rw [← ho] at h ⊢
  have hso : Srt o := ho ▸ outD_srt _ _
  have hmem : ∀ x, x ∈ o ↔ x.1 ∈ idsTo ls (d + 1) ∧ x.2 = sumL ls x.1 := fun x => by
    rw [ho]
    unfold outD
    rw [putIds_mem _ _ (fun x hx => by simp at hx)]
    simp
  have hall : ∀ x, x ∈ allD ls ↔ x.1 ∈ idsAll ls ∧ x.2 = sumL ls x.1 := fun x => by
    unfold allD
    rw [putIds_mem _ _ (fun x hx => by simp at hx)]
    simp
  have hsub : ∀ i, i ∈ idsTo ls (d + 1) → i ∈ idsAll ls := fun i hi => by
    obtain ⟨r, hr, e, x, _, hx, hi⟩ := (idsTo_mem _).1 hi
    exact idsAll_mem.2 ⟨r, hr, x, List.mem_of_getElem? hx, hi⟩
  unfold reach at h
  cases hkk : o[k - 1]? with
  | none => rw [hkk] at h; simp at h
  | some y =>
    rw [hkk] at h
    have hy : thrD ls d + 1 ≤ y.2 := by simpa using h
    have hkl := (List.getElem?_eq_some_iff.1 hkk).1
    have hfirst : ∀ x ∈ o.take k, y.2 ≤ x.2 := fun x hx => by
      obtain ⟨q, hq⟩ := List.getElem?_of_mem hx
      have hq1 : q < k := by have := (List.getElem?_eq_some_iff.1 hq).1; simp at this; omega
      rw [List.getElem?_take_of_lt hq1] at hq
      refine falls_at (r := o) ?_ (e := k - 1) (d := q) (by omega) hkk hq
      exact hso.imp fun h => by rw [ahd_iff] at h; omega
    obtain ⟨R, hR⟩ : ∃ R, R = (allD ls).filter fun x => decide (x ∉ o.take k) := ⟨_, rfl⟩
    have hsR : Srt R := by
      rw [hR]
      have h0 : Srt (allD ls) := putIds_srt _ _ _ srt_nil
      exact List.Pairwise.filter _ h0
    have hso1 : Srt (o.take k) := List.Pairwise.sublist (List.take_sublist _ _) hso
    have hsplit : Srt (o.take k ++ o.drop k) := by rw [List.take_append_drop]; exact hso
    have hcat : Srt (o.take k ++ R) := by
      refine srt_append hso1 hsR fun x hx z hz => ?_
      rw [hR] at hz
      obtain ⟨hz1, hz2⟩ := List.mem_filter.1 hz
      have hz2' : z ∉ o.take k := by simpa using hz2
      obtain ⟨hz3, hz4⟩ := (hall z).1 hz1
      by_cases c : z.1 ∈ idsTo ls (d + 1)
      · have hzo : z ∈ o := (hmem z).2 ⟨c, hz4⟩
        rw [← List.take_append_drop k o] at hzo
        rcases List.mem_append.1 hzo with h1 | h1
        · exact absurd h1 hz2'
        · exact (List.pairwise_append.1 hsplit).2.2 x hx z h1
      · have hz5 : z.2 ≤ thrD ls d := by
          rw [hz4]
          exact sum_rest hg fun r hr e x he hx hi => c ((idsTo_mem _).2 ⟨r, hr, e, x, he, hx, hi⟩)
        have := hfirst x hx
        rw [ahd_iff]
        omega
    have heq : allD ls = o.take k ++ R := by
      refine srt_unique _ _ (putIds_srt _ _ _ srt_nil) hcat fun x => ?_
      rw [List.mem_append, hR, List.mem_filter]
      constructor
      · intro hx
        by_cases c : x ∈ o.take k
        · exact .inl c
        · exact .inr ⟨hx, by simpa using c⟩
      · rintro (h1 | h1)
        · have := (hmem x).1 (List.mem_of_mem_take h1)
          exact (hall x).2 ⟨hsub _ this.1, this.2⟩
        · exact h1.1
    rw [heq, List.take_append_of_le_length (by simp; omega), List.take_take, Nat.min_self]
theorem top_take {ls : List DRanking} (hg : ∀ r ∈ ls, Falls r ∧ ∀ y ∈ r, 1 ≤ y.2) {k : Nat} (hk : 1 ≤ k) : ∀ n d, atDp ls (d + n) = [] → (outD ls (topD ls k (n + 1) d)).take k = (allD ls).take k
  | 0, d, he => by
    simp only [Nat.add_zero] at he
    rw [topD, if_pos he, outD_all he]
  | n + 1, d, he => by
    rw [topD]
    by_cases e : atDp ls d = []
    · rw [if_pos e, outD_all e]
    · rw [if_neg e]
      by_cases c : reach (outD ls (d + 1)) k (thrD ls d) = true
      · rw [if_pos c]; exact take_reach hg hk c
      · rw [if_neg c]; exact top_take hg hk n (d + 1) (by rw [show d + 1 + n = d + (n + 1) by omega]; exact he)
/-- AllBest. -/
def fAllBest (ls : List DRanking) (k : Int) : List DScored × Bool := if (fGoodRankings ls && decide (0 ≤ k ∧ k ≤ 60)) = true then ((allD ls).take k.toNat, true) else ([], false)
/-- TopBest. -/
def fTopBest (ls : List DRanking) (k : Int) : List DScored × Int × Bool :=
  if (fGoodRankings ls && decide (0 ≤ k ∧ k ≤ 60)) = true then (if k = 0 then ([], 0, true) else ((outD ls (topD ls k.toNat 61 0)).take k.toNat, topD ls k.toNat 61 0, true)) else ([], 0, false)
theorem rkOk_falls : ∀ (r pre : List DScored), rkOk pre r = true → (∀ x ∈ r, scOk x = true) ∧ (∀ y, pre.getLast? = some y → ∀ x ∈ r, x.2 ≤ y.2) ∧ Falls r
  | [], pre, _ => ⟨fun x hx => by simp at hx, fun y _ x hx => by simp at hx, List.Pairwise.nil⟩
  | x :: r, pre, h => by
    rw [rkOk] at h
    simp only [Bool.and_eq_true] at h
    obtain ⟨⟨⟨h1, h2⟩, h3⟩, h4⟩ := h
    obtain ⟨i1, i2, i3⟩ := rkOk_falls r (pre ++ [x]) h4
    have i2' := i2 x (by simp)
    refine ⟨fun y hy => ?_, fun y hy z hz => ?_, List.pairwise_cons.2 ⟨fun z hz => i2' z hz, i3⟩⟩
    · rcases List.mem_cons.1 hy with rfl | hy
      · exact h1
      · exact i1 y hy
    · unfold lastA at h2
      rw [hy] at h2
      simp only [ahd_iff] at h2
      rcases List.mem_cons.1 hz with rfl | hz
      · omega
      · have := i2' z hz; omega
theorem good_falls {ls : List DRanking} (h : fGoodRankings ls = true) : ∀ r ∈ ls, Falls r ∧ ∀ y ∈ r, 1 ≤ y.2 := by
  unfold fGoodRankings at h
  simp only [Bool.and_eq_true, List.all_eq_true] at h
  intro r hr
  have h1 := h.1 r hr
  unfold rkGood at h1
  simp only [Bool.and_eq_true] at h1
  obtain ⟨i1, _, i3⟩ := rkOk_falls r [] h1.1
  refine ⟨i3, fun y hy => ?_⟩
  have := i1 y hy
  unfold scOk at this
  simp at this
  omega
theorem good_len {ls : List DRanking} (h : fGoodRankings ls = true) : ls.length ≤ 5 ∧ ∀ r ∈ ls, r.length ≤ 60 := by
  unfold fGoodRankings at h
  simp only [Bool.and_eq_true, List.all_eq_true, decide_eq_true_eq] at h
  refine ⟨h.2, fun r hr => ?_⟩
  have h1 := h.1 r hr
  unfold rkGood at h1
  simp only [Bool.and_eq_true, decide_eq_true_eq] at h1
  exact h1.2
theorem good_sc {ls : List DRanking} (h : fGoodRankings ls = true) : ∀ r ∈ ls, ∀ x ∈ r, (1 ≤ x.2 ∧ x.2 ≤ 1000000) ∧ (0 ≤ x.1 ∧ x.1 ≤ 1000) := by
  unfold fGoodRankings at h
  simp only [Bool.and_eq_true, List.all_eq_true] at h
  intro r hr x hx
  have h1 := h.1 r hr
  unfold rkGood at h1
  simp only [Bool.and_eq_true] at h1
  have := (rkOk_falls r [] h1.1).1 x hx
  unfold scOk at this
  simpa using this
/-- The best few that are found ahead of the ends are the best few of all. -/
theorem top_all (ls : List DRanking) (k : Int) : (fTopBest ls k).1 = (fAllBest ls k).1 ∧ (fTopBest ls k).2.2 = (fAllBest ls k).2 := by
  unfold fTopBest fAllBest
  split
  · rename_i h
    simp only [Bool.and_eq_true, decide_eq_true_eq] at h
    by_cases k0 : k = 0
    · rw [if_pos k0]
      simp [k0]
    · rw [if_neg k0]
      refine ⟨?_, rfl⟩
      refine top_take (good_falls h.1) (by omega) 60 0 ?_
      rw [Nat.zero_add]
      exact atDp_none (good_len h.1).2
  · exact ⟨rfl, rfl⟩
end Go.Proofs.Ytikgcgfigcolmaa
namespace Go.Proofs.Ytikgcgfigcolmaa
open Go.RowKit
set_option linter.unusedVariables false

/-- The scores of an id in a list, all together. -/
def sumS : List DScored → Int → Int
  | [], _ => 0
  | x :: r, i => (if x.1 = i then x.2 else 0) + sumS r i
theorem sumS_append : ∀ (a b : List DScored) (i : Int), sumS (a ++ b) i = sumS a i + sumS b i
  | [], b, i => by simp [sumS]
  | x :: r, b, i => by simp only [List.cons_append, sumS, sumS_append r b i]; omega
theorem sumS_no : ∀ (l : List DScored) (i : Int), noId l i = true → sumS l i = 0
  | [], i, _ => rfl
  | x :: r, i, h => by
    simp only [noId, Bool.and_eq_true] at h
    have h1 : ¬ x.1 = i := by simpa using h.1
    rw [sumS, if_neg h1, sumS_no r i h.2]
    rfl
theorem sumS_is : ∀ (l : List DScored) (i : Int), NoTwice l → sumS l i = scoreL l i
  | [], i, _ => rfl
  | x :: r, i, h => by
    have h' := List.pairwise_cons.1 h
    rw [sumS, scoreL]
    by_cases c : x.1 = i
    · rw [if_pos c, if_pos c, sumS_no r i ((noId_iff _ _).2 fun y hy => by rw [← c]; exact (h'.1 y hy).symm)]
      omega
    · rw [if_neg c, if_neg c, sumS_is r i h'.2]
      omega
theorem rkOk_once : ∀ (r pre : List DScored), rkOk pre r = true → NoTwice r ∧ ∀ y ∈ pre, ∀ x ∈ r, y.1 ≠ x.1
  | [], pre, _ => ⟨List.Pairwise.nil, fun y _ x hx => by simp at hx⟩
  | x :: r, pre, h => by
    rw [rkOk] at h
    simp only [Bool.and_eq_true] at h
    obtain ⟨⟨⟨h1, h2⟩, h3⟩, h4⟩ := h
    obtain ⟨i1, i2⟩ := rkOk_once r (pre ++ [x]) h4
    refine ⟨List.pairwise_cons.2 ⟨fun y hy => i2 x (by simp) y hy, i1⟩, fun y hy z hz => ?_⟩
    rcases List.mem_cons.1 hz with rfl | hz
    · exact (noId_iff _ _).1 h3 y hy
    · exact i2 y (by simp [hy]) z hz
/-- What a sum needs: lists of scores, no id twice. -/
def SumOk (ls : List DRanking) : Prop := ls.length ≤ 5 ∧ ∀ r ∈ ls, r.length ≤ 60 ∧ NoTwice r ∧ ∀ x ∈ r, 1 ≤ x.2 ∧ x.2 ≤ 1000000
theorem good_sumOk {ls : List DRanking} (h : fGoodRankings ls = true) : SumOk ls := by
  refine ⟨(good_len h).1, fun r hr => ⟨(good_len h).2 r hr, ?_, fun x hx => (good_sc h r hr x hx).1⟩⟩
  unfold fGoodRankings at h
  simp only [Bool.and_eq_true, List.all_eq_true] at h
  have h1 := h.1 r hr
  unfold rkGood at h1
  simp only [Bool.and_eq_true] at h1
  exact (rkOk_once r [] h1.1).1
theorem sumL_append : ∀ (a b : List DRanking) (i : Int), sumL (a ++ b) i = sumL a i + sumL b i
  | [], b, i => by simp [sumL]
  | x :: r, b, i => by simp only [List.cons_append, sumL, sumL_append r b i]; omega
theorem scoreL_bnd {r : List DScored} (h : ∀ x ∈ r, 1 ≤ x.2 ∧ x.2 ≤ 1000000) (i : Int) : 0 ≤ scoreL r i ∧ scoreL r i ≤ 1000000 := by
  cases e : noId r i with
  | true => rw [scoreL_no r i e]; omega
  | false =>
    obtain ⟨y, hy, _, h2⟩ := scoreL_mem r i e
    have := h y hy
    omega
theorem sumL_bnd : ∀ {ls : List DRanking} (h : ∀ r ∈ ls, ∀ x ∈ r, 1 ≤ x.2 ∧ x.2 ≤ 1000000) (i : Int), 0 ≤ sumL ls i ∧ sumL ls i ≤ 1000000 * ls.length
  | [], _, i => by simp [sumL]
  | r :: t, h, i => by
    have h1 := scoreL_bnd (h r (by simp)) i
    have h2 := sumL_bnd (ls := t) (fun q hq => h q (by simp [hq])) i
    simp only [sumL, List.length_cons]
    omega

set_option maxRecDepth 100000 in
set_option maxHeartbeats 4000000 in
theorem l11Sum_k (ls : List DRanking) (a : Option Addr) (n c : Nat) (S : Nat → Prop) (i : Int) (w : World) (h : (kRow kRanking).is false w S [.slice a n c] ls) (hok : SumOk ls) :
    Calls Try.prog 68 #[.slice a n c, .int .i64 i] w fun e w' => e = .returned (.int .i64 (sumL ls i)) ∧ Below w.heap.size w w' := by
  have hnl := row_len h
  have h5 : n ≤ 5 := by rw [hnl]; exact hok.1
  have HNL : Hid (n = ls.length) := hnl
  have H : Hid ((kRow kRanking).is false w S [.slice a n c] ls) := h
  have HOK : Hid (SumOk ls) := hok
  clear h hnl hok
  go_enter Try.func68, Try.ntmps68
  go_wp2_with fail
  go_loopw [5, 12] (fun sv iv wr => ∃ (k : Nat) (z : Int), k ≤ n ∧ iv = .int .i64 k ∧ sv = .int .i64 z ∧ Hid (z = sumL (ls.take k) i) ∧ (0 ≤ z ∧ z ≤ 1000000 * k) ∧ Below w.heap.size w wr) (fun _ iv _ => n - (intOf iv).toNat)
  case atStart => exact ⟨0, 0, Nat.zero_le _, rfl, rfl, rfl, by omega, Below.refl _ _⟩
  case round =>
    obtain ⟨k, z, hk, rfl, rfl, HI, hz, hnx⟩ := hrel
    have zw := hnx.size
    by_cases hlt : k < n
    · obtain ⟨x, hx⟩ : ∃ x, ls[k]? = some x := ⟨_, List.getElem?_eq_getElem (by rw [← HNL.out]; exact hlt)⟩
      obtain ⟨b, off, B, C, rfl, hb, _, hi, _, hc⟩ := row_at (Kd.below H.out hnx) hx
      obtain ⟨la, lc, T, rfl, hm, hl, _⟩ := kRanking_open hi
      have A0 : wr.cell? ⟨b, off + k, none⟩ = some (.slice la x.length lc) := cell1 (hc 0 _ rfl).1
      have i0 : (0 : Int) ≤ (k : Int) := by omega
      have i1 : (k : Int) < (n : Int) := by omega
      obtain ⟨q60, qn, qb⟩ := HOK.out.2 x (List.mem_of_getElem? hx)
      have HQN : Hid (NoTwice x) := qn
      have HQB : Hid (∀ y ∈ x, 1 ≤ y.2 ∧ y.2 ≤ 1000000) := qb
      have HTK : Hid (sumL (ls.take (k + 1)) i = sumL (ls.take k) i + scoreL x i) := by show _ = _; rw [List.take_add_one, hx, sumL_append]; simp [sumL]
      obtain ⟨W1, hW1⟩ : ∃ W1, W1 = wr.alloc (.cells #[.slice la x.length lc] 58) := ⟨_, rfl⟩
      have B1 : Below wr.heap.size wr W1 := by rw [hW1]; exact below_a1r _ _
      have HL : Hid ((kRow kScored).is false W1 T [.slice la x.length lc] x) := Kd.below hl B1
      have HB1 : Hid (Below w.heap.size w W1) := hnx.trans (B1.mono hnx.size)
      obtain ⟨m, hm'⟩ : ∃ m, m = x.length := ⟨_, rfl⟩
      have HM : Hid (m = x.length) := hm'
      rw [← hm'] at A0 HL hW1 hm q60
      clear hc hi hx hl hnx B1 hm' qn qb
      obtain ⟨z1, z2⟩ := hz
      go_wp2_with fail
      rw [← hW1]
      clear hW1
      go_loopw [5, 19] (fun sv jv wq => ∃ (j : Nat) (y : Int), j ≤ m ∧ jv = .int .i64 j ∧ sv = .int .i64 y ∧ Hid (y = z + sumS (x.take j) i) ∧ (z ≤ y ∧ y ≤ z + 1000000 * j) ∧ Below W1.heap.size W1 wq) (fun _ jv _ => m - (intOf jv).toNat)
      case atStart => exact ⟨0, z, Nat.zero_le _, rfl, rfl, by show _ = _; simp [sumS], by omega, Below.refl _ _⟩
      case round =>
        obtain ⟨j, y, hj, rfl, rfl, HJ, hy, hnq⟩ := hrel
        obtain ⟨y1, y2⟩ := hy
        have zq := hnq.size
        have HBQ : Hid (Below w.heap.size w wr) := HB1.out.trans (hnq.mono HB1.out.size)
        by_cases hjl : j < m
        · obtain ⟨⟨u, s⟩, hu⟩ : ∃ y, x[j]? = some y := ⟨_, List.getElem?_eq_getElem (by rw [← HM.out]; exact hjl)⟩
          obtain ⟨b2, off2, B2, C2, rfl, hb2, _, hi2, _, hc2⟩ := row_at (Kd.below HL.out hnq) hu
          obtain ⟨rfl, g0, g1⟩ := kScored_open hi2
          have D0 : wr.cell? ⟨b2, off2 + j * 2, none⟩ = some (.int .i64 u) := (hc2 0 _ rfl).1
          have D1 : wr.cell? ⟨b2, off2 + j * 2 + 1, none⟩ = some (.int .i64 s) := (hc2 1 _ rfl).1
          have j0 : (0 : Int) ≤ (j : Int) := by omega
          have j1 : (j : Int) < (m : Int) := by omega
          obtain ⟨s1, s2⟩ := HQB.out (u, s) (List.mem_of_getElem? hu)
          simp only at s1 s2
          have HJ1 : Hid (sumS (x.take (j + 1)) i = sumS (x.take j) i + (if u = i then s else 0)) := by show _ = _; rw [List.take_add_one, hu, sumS_append]; simp [sumS]
          clear hc2 hi2 hu
          by_cases hui : u = i
          · have HJ2 : Hid (y + s = z + sumS (x.take (j + 1)) i) := by show _ = _; rw [HJ1.out, if_pos hui, HJ.out]; omega
            subst hui
            clear HJ1 HJ
            go_wp2
            go_roundw
            case rel => exact ⟨j + 1, y + s, by omega, by go_num, by first | rfl | (congr 1; omega), HJ2, by omega, hnq.alloc zq _⟩
            case measure => simp [intOf]; omega
          · have HJ2 : Hid (y = z + sumS (x.take (j + 1)) i) := by show _ = _; rw [HJ1.out, if_neg hui, HJ.out]; omega
            have hui' : (u == i) = false := by simpa using hui
            clear HJ1 HJ
            go_wp2
            go_roundw
            case rel => exact ⟨j + 1, y, by omega, by go_num, rfl, HJ2, by omega, hnq.alloc zq _⟩
            case measure => simp [intOf]; omega
        · have j1 : ¬ (j : Int) < (m : Int) := by omega
          have HE : Hid (y = sumL (ls.take (k + 1)) i) := by
            show _ = _
            rw [HTK.out, HJ.out, HI.out, show j = x.length by rw [← HM.out]; omega, List.take_length, sumS_is x i HQN.out]
          have HE2 : Hid (y ≤ z + 1000000) := by
            have h1 := scoreL_bnd HQB.out i
            have h2 := HE.out
            rw [HTK.out, ← HI.out] at h2
            show _ ≤ _
            omega
          clear HJ
          go_wp2
          go_roundw
          case rel => exact ⟨k + 1, y, by omega, by go_num, rfl, HE, by have := HE2.out; omega, HBQ.out⟩
          case measure => simp [intOf]; omega
    · have i1 : ¬ (k : Int) < (n : Int) := by omega
      have HE : Hid (sumL ls i = z) := by show _ = _; rw [HI.out, show k = ls.length by rw [← HNL.out]; omega, List.take_length]
      clear HI
      go_wp2
      go_ret
      exact ⟨by rw [HE.out]; rfl, hnx⟩
end Go.Proofs.Ytikgcgfigcolmaa
namespace Go.Proofs.Ytikgcgfigcolmaa
open Go.RowKit
set_option linter.unusedVariables false

theorem own_empS (w : World) (B : Nat) (hB : B ≤ w.heap.size) : OwnL scC 60 2 (w.alloc (.cells #[] 60)) B (.slice (some ⟨w.heap.size, 0, none⟩) 0 0) [] :=
  ⟨by simp, .inr ⟨w.heap.size, 0, #[], rfl, hB, World.alloc_heap_new w _, Nat.le_refl _, Nat.zero_le _, by simp, by simp⟩⟩

/-- A row copied. -/
def RScs (l : List DScored) (w : World) (e : Ending) (w' : World) : Prop := ∃ (a : Option Addr) (n c : Nat), e = .returned (.slice a n c) ∧ (kRow kScored).is true w' (fun k => w.heap.size ≤ k) [.slice a n c] l ∧ Below w.heap.size w w'

set_option maxRecDepth 100000 in
set_option maxHeartbeats 4000000 in
theorem l11First_k (l : List DScored) (a : Option Addr) (n c : Nat) (S : Nat → Prop) (k : Nat) (w : World) (h : (kRow kScored).is true w S [.slice a n c] l) (hl : l.length ≤ 2 ^ 20) (hk : k ≤ 60) :
    Calls Try.prog 69 #[.slice a n c, .int .i64 k] w (RScs (l.take k) w) := by
  have hnl := row_len h
  have hnc : n ≤ c := by obtain ⟨_, _, e, _, h⟩ := row_form h; simp only [List.cons.injEq, Value.slice.injEq, and_true] at e; have := h rfl; omega
  have n20 : n ≤ 2 ^ 20 := by omega
  have HNL : Hid (n = l.length) := hnl
  have HI : Hid (∀ x ∈ l, IntOk x.1 ∧ IntOk x.2) := row_ints h
  have H : Hid ((kRow kScored).is false w S [.slice a n c] l) := Kd.read _ h
  have HOE : Hid (OwnL scC 60 2 (w.alloc (.cells #[] 60)) w.heap.size (.slice (some ⟨w.heap.size, 0, none⟩) 0 0) []) := own_empS w w.heap.size (Nat.le_refl _)
  clear h hnl hl
  by_cases c1 : (k : Int) < (n : Int)
  · have HR : Hid ((kRow kScored).is false (w.alloc (.cells #[] 60)) S [.slice a k c] (l.take k)) := Kd.below (row_take H.out (by omega)) (below_a1r _ _)
    have k0 : ¬ (k : Int) < 0 := by omega
    have kc : (k : Int) ≤ (c : Int) := by omega
    go_enter Try.func69, Try.ntmps69
    go_wp2_with (first | (at_builtin; go_loud (refine app_scs rfl _ _ rfl w.heap.size _ [] rfl HOE.out a k c S (l.take k) rfl HR.out (by simp; omega) (by simp) ?_)))
    intro v3 w3 ho3 hb3 _
    obtain ⟨a3, c3, rfl, _⟩ := ho3.form
    have HO : Hid (OwnL scC 60 2 w3 w.heap.size (.slice a3 (l.take k).length c3) (l.take k)) := ho3
    have HB : Hid (Below w.heap.size w w3) := (below_a1r _ _).trans hb3
    clear ho3 hb3
    go_wp2
    go_ret
    exact ⟨a3, _, c3, rfl, own_scs HO.out (by simp; omega) (fun x hx => HI.out x (List.mem_of_mem_take hx)), HB.out⟩
  · have HR : Hid ((kRow kScored).is false (w.alloc (.cells #[] 60)) S [.slice a n c] l) := Kd.below H.out (below_a1r _ _)
    have HT : Hid (l.take k = l) := by show _ = _; rw [List.take_of_length_le (by rw [← HNL.out]; omega)]
    go_enter Try.func69, Try.ntmps69
    go_wp2_with (first | (at_builtin; go_loud (refine app_scs rfl _ _ rfl w.heap.size _ [] rfl HOE.out a n c S l rfl HR.out (by rw [← HNL.out]; simp; omega) (by simp) ?_)))
    intro v3 w3 ho3 hb3 _
    obtain ⟨a3, c3, rfl, _⟩ := ho3.form
    have HO : Hid (OwnL scC 60 2 w3 w.heap.size (.slice a3 l.length c3) l) := ho3
    have HB : Hid (Below w.heap.size w w3) := (below_a1r _ _).trans hb3
    clear ho3 hb3
    go_wp2
    go_ret
    unfold RScs
    rw [HT.out]
    exact ⟨a3, _, c3, rfl, own_scs HO.out (by rw [← HNL.out]; omega) HI.out, HB.out⟩

/-- What putting one to its place answers. -/
def RPut (l : List DScored) (x : DScored) (S : Nat → Prop) (w : World) (e : Ending) (w' : World) : Prop := ∃ (a : Option Addr) (n c : Nat), e = .returned (.slice a n c) ∧ (kRow kScored).is true w' (fun k => S k ∨ w.heap.size ≤ k) [.slice a n c] (putL l x) ∧ Below w.heap.size w w'

set_option maxRecDepth 100000 in
set_option maxHeartbeats 8000000 in
theorem l11Put_k (l : List DScored) (a : Option Addr) (n c : Nat) (S : Nat → Prop) (i s : Int) (w : World) (h : (kRow kScored).is true w S [.slice a n c] l) (hl : l.length ≤ 2 ^ 20) (hi : IntOk i) (hs : IntOk s) :
    Calls Try.prog 67 #[.slice a n c, .agg #[.int .i64 i, .int .i64 s]] w (RPut l (i, s) S w) := by
  have hnl := row_len h
  have hnc : n ≤ c := by obtain ⟨_, _, e, _, h⟩ := row_form h; simp only [List.cons.injEq, Value.slice.injEq, and_true] at e; have := h rfl; omega
  have n20 : n ≤ 2 ^ 20 := by omega
  have HNL : Hid (n = l.length) := hnl
  have HI : Hid (∀ x ∈ l, IntOk x.1 ∧ IntOk x.2) := row_ints h
  have HOW : Hid ((kRow kScored).is true w S [.slice a n c] l) := h
  have H : Hid ((kRow kScored).is false w S [.slice a n c] l) := Kd.read _ h
  have HIS : Hid (IntOk i ∧ IntOk s) := ⟨hi, hs⟩
  obtain ⟨q, hq⟩ : ∃ q, q = noId l i := ⟨_, rfl⟩
  have HQ : Hid (noId (l.drop 0) i = q) := hq.symm
  have HP : Hid (putL l (i, s) = if q = true then insL l (i, s) else l) := by show _ = _; unfold putL; rw [hq]
  clear h hnl hl hi hs hq
  go_enter Try.func67, Try.ntmps67
  go_wp2_with fail
  obtain ⟨W0, hW0⟩ : ∃ W0, W0 = w.alloc (.cells #[.int .i64 i, .int .i64 s] 60) := ⟨_, rfl⟩
  rw [← hW0]
  have X0 : W0.cell? ⟨w.heap.size, 0, none⟩ = some (.int .i64 i) := by rw [hW0]; simp [go_sem]
  have X1 : W0.cell? ⟨w.heap.size, 1, none⟩ = some (.int .i64 s) := by rw [hW0]; simp [go_sem]
  have HBW : Hid (Below w.heap.size w W0) := by rw [hW0]; exact below_a1r _ _
  have zW : w.heap.size < W0.heap.size := by rw [hW0]; simp
  clear hW0
  go_loopw [11] (fun iv wr => ∃ (k : Nat), k ≤ n ∧ iv = .int .i64 k ∧ Hid (noId (l.drop k) i = q) ∧ Below W0.heap.size W0 wr) (fun iv _ => n - (intOf iv).toNat)
  case atStart => exact ⟨0, Nat.zero_le _, rfl, HQ, Below.refl _ _⟩
  case round =>
    obtain ⟨k, hk, rfl, HJ, hnx⟩ := hrel
    have zw := hnx.size
    have HBR : Hid (Below w.heap.size w wr) := HBW.out.trans (hnx.mono HBW.out.size)
    have Y0 := cell_later hnx X0
    have Y1 := cell_later hnx X1
    by_cases hlt : k < n
    · obtain ⟨⟨u, v⟩, hx⟩ : ∃ x, l[k]? = some x := ⟨_, List.getElem?_eq_getElem (by rw [← HNL.out]; exact hlt)⟩
      obtain ⟨b, off, B, C, rfl, hb, _, hi, _, hc⟩ := row_at (Kd.below H.out HBR.out) hx
      obtain ⟨rfl, g0, g1⟩ := kScored_open hi
      have A0 : wr.cell? ⟨b, off + k * 2, none⟩ = some (.int .i64 u) := (hc 0 _ rfl).1
      have A1 : wr.cell? ⟨b, off + k * 2 + 1, none⟩ = some (.int .i64 v) := (hc 1 _ rfl).1
      have i0 : (0 : Int) ≤ (k : Int) := by omega
      have i1 : (k : Int) < (n : Int) := by omega
      have Y2 := cell_later (below_a1r wr (.cells #[.int .i64 u, .int .i64 v] 60)) Y0
      have HJ1 : Hid ((!decide (u = i) && noId (l.drop (k + 1)) i) = q) := by have := HJ.out; rw [noId_drop hx] at this; exact this
      clear hc hi hx HJ
      by_cases hui : u = i
      · have HF : Hid (putL l (i, s) = l) := by have h1 := HJ1.out; rw [decide_eq_true hui] at h1; show _ = _; rw [HP.out, ← h1]; rfl
        subst hui
        clear HJ1
        go_wp2
        go_ret
        unfold RPut
        rw [HF.out]
        exact ⟨_, n, c, rfl, Kd.mono (Kd.below HOW.out (HBR.out.alloc (by have := HBR.out.size; omega) _)) (fun k hk => .inl hk), HBR.out.alloc (by have := HBR.out.size; omega) _⟩
      · have HJ2 : Hid (noId (l.drop (k + 1)) i = q) := by have := HJ1.out; rw [decide_eq_false hui] at this; exact this
        have hui' : (u == i) = false := by simpa using hui
        clear HJ1
        go_wp2
        go_roundw
        case rel => exact ⟨k + 1, by omega, by go_num, HJ2, hnx.alloc (by omega) _⟩
        case measure => simp [intOf]; omega
    · have i1 : ¬ (k : Int) < (n : Int) := by omega
      have HE : Hid (putL l (i, s) = insL l (i, s)) := by
        have h1 := HJ.out
        rw [show k = l.length by rw [← HNL.out]; omega, List.drop_length, noId] at h1
        show _ = _
        rw [HP.out, ← h1]
        rfl
      clear HJ HP
      obtain ⟨W2, hW2⟩ : ∃ W2, W2 = wr := ⟨_, rfl⟩
      rw [← hW2] at HBR Y0 Y1
      have HW2 : Hid (W2 = wr) := hW2
      clear hW2
      obtain ⟨P, hP⟩ : ∃ P, P = posL l (i, s) := ⟨_, rfl⟩
      have HPP : Hid (0 + posL (l.drop 0) (i, s) = P) := by show _ = _; rw [hP, List.drop_zero, Nat.zero_add]
      have HIN : Hid (putL l (i, s) = l.take P ++ (i, s) :: l.drop P) := by show _ = _; rw [HE.out, hP]; exact insL_is l (i, s)
      have hPn : P ≤ n := by rw [hP, HNL.out]; exact posL_le _ _
      clear hP HE
      go_wp2_with fail
      rw [← HW2.out]
      clear HW2 hnx zw
      go_loopw [7] (fun kv wq => ∃ (p : Nat), p ≤ n ∧ kv = .int .i64 p ∧ Hid (p + posL (l.drop p) (i, s) = P) ∧ Below W2.heap.size W2 wq) (fun kv _ => n - (intOf kv).toNat)
      case atStart => exact ⟨0, Nat.zero_le _, rfl, HPP, Below.refl _ _⟩
      case round =>
        obtain ⟨p, hp, rfl, HK, hnq⟩ := hrel
        have HBQ : Hid (Below w.heap.size w wr) := HBR.out.trans (hnq.mono HBR.out.size)
        have Z0 := cell_later hnq Y0
        have Z1 := cell_later hnq Y1
        have hne := belowOf_ne wr
        have U0 : ∀ p : BelowOf wr, p.v.cell? ⟨w.heap.size, 0, none⟩ = some (.int .i64 i) := BelowOf.cell Z0
        have U1 : ∀ p : BelowOf wr, p.v.cell? ⟨w.heap.size, 1, none⟩ = some (.int .i64 s) := BelowOf.cell Z1
        by_cases hpl : p < n
        · obtain ⟨⟨u, v⟩, hx⟩ : ∃ x, l[p]? = some x := ⟨_, List.getElem?_eq_getElem (by rw [← HNL.out]; exact hpl)⟩
          obtain ⟨b, off, B, C, hab, hb, _, hi, _, hc⟩ := row_at (Kd.below H.out HBQ.out) hx
          obtain ⟨rfl, g0, g1⟩ := kScored_open hi
          have U2 : ∀ q : BelowOf wr, q.v.cell? ⟨b, off + p * 2, none⟩ = some (.int .i64 u) := BelowOf.cell (hc 0 _ rfl).1
          have U3 : ∀ q : BelowOf wr, q.v.cell? ⟨b, off + p * 2 + 1, none⟩ = some (.int .i64 v) := BelowOf.cell (hc 1 _ rfl).1
          have HLS : Hid (∀ w, Calls Try.prog 71 #[.agg #[.int .i64 u, .int .i64 v], .agg #[.int .i64 i, .int .i64 s]] w fun e w' => e = .returned (.bool (ahd (u, v) (i, s))) ∧ Below w.heap.size w w') := l11Less_k u v i s
          have HK1 : Hid (p + (if ahd (u, v) (i, s) = true then posL (l.drop (p + 1)) (i, s) + 1 else 0) = P) := by have := HK.out; rw [posL_drop hx] at this; exact this
          have kpb : decide (p < n) = true := decide_eq_true hpl
          have i0 : (0 : Int) ≤ (p : Int) := by omega
          have i1 : (p : Int) < (n : Int) := by omega
          have HAB : Hid (a = some ⟨b, off, none⟩) := hab
          clear hc hi hx hb hab
          cases hah : ahd (u, v) (i, s) with
          | true =>
            have HK2 : Hid (p + 1 + posL (l.drop (p + 1)) (i, s) = P) := by have := HK1.out; rw [hah, if_pos rfl] at this; show _ = _; omega
            rw [hah] at HLS
            clear hah HK1 HK
            go_wp2_with fail
            rw [HAB.out]
            refine region_below (by kernel_rfl) (by kernel_rfl) ?_
            repeat (go_big_quiet_step (first | (go_at_call 71; exact BelowOf.calls (HLS.out _))))
            refine wpQuiet_nil (belowOf_all ?_)
            intro w2 hb2
            rw [← HAB.out]
            go_wp2
            go_roundw
            case rel => exact ⟨p + 1, by omega, by go_num, HK2, hnq.trans (hb2.mono hnq.size)⟩
            case measure => simp [intOf]; omega
          | false =>
            have HEP : Hid (p = P) := by have := HK1.out; rw [hah] at this; show _ = _; simpa using this
            rw [hah] at HLS
            clear hah HK1
            go_wp2_with fail
            rw [HAB.out]
            refine region_below (by kernel_rfl) (by kernel_rfl) ?_
            repeat (go_big_quiet_step (first | (go_at_call 71; exact BelowOf.calls (HLS.out _))))
            refine wpQuiet_nil (belowOf_all ?_)
            intro w2 hb2
            rw [← HAB.out]
            clear U2 U3 kpb HAB HLS
            have HB2 : Hid (Below w.heap.size w w2) := HBQ.out.trans (hb2.mono HBQ.out.size)
            have V0 := cell_later hb2 Z0
            have V1 := cell_later hb2 Z1
            have HR1 : Hid ((kRow kScored).is false w2 S [.slice a p c] (l.take p)) := row_take (Kd.below H.out HB2.out) hp
            have z2 : w.heap.size ≤ w2.heap.size := HB2.out.size
            have p0 : ¬ (p : Int) < 0 := by omega
            have pc : (p : Int) ≤ (c : Int) := by omega
            have pn : (p : Int) ≤ (n : Int) := by omega
            clear hb2 U0 U1 hne HK Z0 Z1
            go_wp2_with (first | (at_builtin; go_loud (refine app_scs rfl _ _ rfl w2.heap.size _ [] rfl (OwnL.nil _ _ _ _ _) a p c S (l.take p) rfl HR1.out (by simp; omega) (Nat.le_refl _) ?_)))
            intro v3 w3 ho3 hb3 hg3
            obtain ⟨a3, c3, rfl, _⟩ := ho3.form
            have HO3 : Hid (OwnL scC 60 2 w3 w2.heap.size (.slice a3 (l.take p).length c3) (l.take p)) := ho3
            have HB3 : Hid (Below w2.heap.size w2 w3) := hb3
            have zlt : w.heap.size < w2.heap.size := by have := World.block_lt_of_cell? _ _ V0; exact this
            have T0 : w3.cell? ⟨w.heap.size, 0, none⟩ = some (.int .i64 i) := (hb3.cell zlt).trans V0
            have T1 : w3.cell? ⟨w.heap.size, 1, none⟩ = some (.int .i64 s) := (hb3.cell zlt).trans V1
            have z3 := hb3.size
            have hlp : (l.take p).length = p := by rw [List.length_take, ← HNL.out]; omega
            rw [hlp] at HO3 ⊢
            clear ho3 hb3 hg3 hlp V0 V1
            go_wp2_with (first | (at_builtin; go_loud (refine app_sc rfl _ _ rfl w2.heap.size _ (l.take p) rfl (OwnL.below HO3.out (below_a1r _ _)) _ (i, s) rfl (by simp [go_sem]) (by simp [go_sem]) (by rw [List.length_take]; omega) (by simp; omega) ?_)))
            intro v4 w4 ho4 hb4 hg4
            obtain ⟨a4, c4, rfl, _⟩ := ho4.form
            have hlp4 : (l.take p ++ [(i, s)]).length = p + 1 := by rw [List.length_append, List.length_take, ← HNL.out]; simp; omega
            have HO4 : Hid (OwnL scC 60 2 w4 w2.heap.size (.slice a4 (p + 1) c4) (l.take p ++ [(i, s)])) := by have := ho4; rw [hlp4] at this; exact this
            have HB4 : Hid (Below w2.heap.size w2 w4) := (HB3.out.alloc z3 _).trans hb4
            have z4 : w2.heap.size ≤ w4.heap.size := HB4.out.size
            rw [hlp4]
            clear ho4 hb4 hg4 hlp4 T0 T1
            have HB4w : Hid (Below w.heap.size w w4) := HB2.out.trans (HB4.out.mono z2)
            by_cases hpn : p < n
            · obtain ⟨x, hx⟩ : ∃ x, l[0]? = some x := ⟨_, List.getElem?_eq_getElem (by rw [← HNL.out]; omega)⟩
              obtain ⟨b9, off9, B9, C9, hab9, _⟩ := row_at H.out hx
              have HR5 : Hid ((kRow kScored).is false w4 S [.slice (some ⟨b9, off9 + p * 2, none⟩) (n - p) (c - p)] (l.drop p)) := row_drop (by rw [← hab9]; exact Kd.below H.out HB4w.out) hp
              subst hab9
              have hpc : (p : Int) < (c : Int) := by omega
              clear hx
              go_wp2_with (first | (at_builtin; go_loud (refine app_scs rfl _ _ rfl w2.heap.size _ (l.take p ++ [(i, s)]) rfl HO4.out _ _ _ S (l.drop p) rfl HR5.out (by simp only [List.length_append, List.length_take, List.length_drop, ← HNL.out]; simp; omega) z4 ?_)))
              intro v5 w5 ho5 hb5 hg5
              obtain ⟨a5, c5, rfl, _⟩ := ho5.form
              have HO5 : Hid (OwnL scC 60 2 w5 w2.heap.size (.slice a5 (l.take p ++ (i, s) :: l.drop p).length c5) (l.take p ++ (i, s) :: l.drop p)) := ho5
              have HB5 : Hid (Below w.heap.size w w5) := HB4w.out.trans (hb5.mono z2)
              obtain ⟨n5, hn5⟩ : ∃ n5, n5 = (l.take p ++ (i, s) :: l.drop p).length := ⟨_, rfl⟩
              have HN5 : Hid (n5 = (l.take p ++ (i, s) :: l.drop p).length) := hn5
              rw [← hn5] at HO5 ⊢
              clear ho5 hb5 hg5 hn5
              go_wp2
              go_ret
              unfold RPut
              have e : putL l (i, s) = l.take p ++ (i, s) :: l.drop p := by rw [HIN.out, HEP.out]
              rw [e]
              refine ⟨a5, n5, c5, rfl, Kd.mono (own_scs HO5.out ?_ fun x hx => ?_) (fun k hk => .inr (Nat.le_trans z2 hk)), HB5.out⟩
              · simp only [List.length_append, List.length_take, List.length_drop, List.length_cons, ← HNL.out]; omega
              · rcases List.mem_append.1 hx with h1 | h1
                · exact HI.out x (List.mem_of_mem_take h1)
                · rcases List.mem_cons.1 h1 with rfl | h1
                  · exact HIS.out
                  · exact HI.out x (List.mem_of_mem_drop h1)
            · have HR6 : Hid (∀ ra c', (kRow kScored).is false w4 S [.slice ra (n - p) c'] (l.drop p)) := fun ra c' => by rw [List.drop_eq_nil_of_le (by rw [← HNL.out]; omega), show n - p = 0 by omega]; exact row_nil _ _ _ _ _ _
              by_cases hpc : (p : Int) < (c : Int)
              · cases a with
                | none =>
                  go_wp2_with (first | (at_builtin; go_loud (refine app_scs rfl _ _ rfl w2.heap.size _ (l.take p ++ [(i, s)]) rfl HO4.out _ _ _ S (l.drop p) rfl (HR6.out _ _) (by simp only [List.length_append, List.length_take, List.length_drop, ← HNL.out]; simp; omega) z4 ?_)))
                  intro v5 w5 ho5 hb5 hg5
                  obtain ⟨a5, c5, rfl, _⟩ := ho5.form
                  have HO5 : Hid (OwnL scC 60 2 w5 w2.heap.size (.slice a5 (l.take p ++ (i, s) :: l.drop p).length c5) (l.take p ++ (i, s) :: l.drop p)) := ho5
                  have HB5 : Hid (Below w.heap.size w w5) := HB4w.out.trans (hb5.mono z2)
                  obtain ⟨n5, hn5⟩ : ∃ n5, n5 = (l.take p ++ (i, s) :: l.drop p).length := ⟨_, rfl⟩
                  have HN5 : Hid (n5 = (l.take p ++ (i, s) :: l.drop p).length) := hn5
                  rw [← hn5] at HO5 ⊢
                  clear ho5 hb5 hg5 hn5
                  go_wp2
                  go_ret
                  unfold RPut
                  have e : putL l (i, s) = l.take p ++ (i, s) :: l.drop p := by rw [HIN.out, HEP.out]
                  rw [e]
                  refine ⟨a5, n5, c5, rfl, Kd.mono (own_scs HO5.out ?_ fun x hx => ?_) (fun k hk => .inr (Nat.le_trans z2 hk)), HB5.out⟩
                  · simp only [List.length_append, List.length_take, List.length_drop, List.length_cons, ← HNL.out]; omega
                  · rcases List.mem_append.1 hx with h1 | h1
                    · exact HI.out x (List.mem_of_mem_take h1)
                    · rcases List.mem_cons.1 h1 with rfl | h1
                      · exact HIS.out
                      · exact HI.out x (List.mem_of_mem_drop h1)
                | some ad =>
                  go_wp2_with (first | (at_builtin; go_loud (refine app_scs rfl _ _ rfl w2.heap.size _ (l.take p ++ [(i, s)]) rfl HO4.out _ _ _ S (l.drop p) rfl (HR6.out _ _) (by simp only [List.length_append, List.length_take, List.length_drop, ← HNL.out]; simp; omega) z4 ?_)))
                  intro v5 w5 ho5 hb5 hg5
                  obtain ⟨a5, c5, rfl, _⟩ := ho5.form
                  have HO5 : Hid (OwnL scC 60 2 w5 w2.heap.size (.slice a5 (l.take p ++ (i, s) :: l.drop p).length c5) (l.take p ++ (i, s) :: l.drop p)) := ho5
                  have HB5 : Hid (Below w.heap.size w w5) := HB4w.out.trans (hb5.mono z2)
                  obtain ⟨n5, hn5⟩ : ∃ n5, n5 = (l.take p ++ (i, s) :: l.drop p).length := ⟨_, rfl⟩
                  have HN5 : Hid (n5 = (l.take p ++ (i, s) :: l.drop p).length) := hn5
                  rw [← hn5] at HO5 ⊢
                  clear ho5 hb5 hg5 hn5
                  go_wp2
                  go_ret
                  unfold RPut
                  have e : putL l (i, s) = l.take p ++ (i, s) :: l.drop p := by rw [HIN.out, HEP.out]
                  rw [e]
                  refine ⟨a5, n5, c5, rfl, Kd.mono (own_scs HO5.out ?_ fun x hx => ?_) (fun k hk => .inr (Nat.le_trans z2 hk)), HB5.out⟩
                  · simp only [List.length_append, List.length_take, List.length_drop, List.length_cons, ← HNL.out]; omega
                  · rcases List.mem_append.1 hx with h1 | h1
                    · exact HI.out x (List.mem_of_mem_take h1)
                    · rcases List.mem_cons.1 h1 with rfl | h1
                      · exact HIS.out
                      · exact HI.out x (List.mem_of_mem_drop h1)
              · cases a with
                | none =>
                  go_wp2_with (first | (at_builtin; go_loud (refine app_scs rfl _ _ rfl w2.heap.size _ (l.take p ++ [(i, s)]) rfl HO4.out _ _ _ S (l.drop p) rfl (HR6.out _ _) (by simp only [List.length_append, List.length_take, List.length_drop, ← HNL.out]; simp; omega) z4 ?_)))
                  intro v5 w5 ho5 hb5 hg5
                  obtain ⟨a5, c5, rfl, _⟩ := ho5.form
                  have HO5 : Hid (OwnL scC 60 2 w5 w2.heap.size (.slice a5 (l.take p ++ (i, s) :: l.drop p).length c5) (l.take p ++ (i, s) :: l.drop p)) := ho5
                  have HB5 : Hid (Below w.heap.size w w5) := HB4w.out.trans (hb5.mono z2)
                  obtain ⟨n5, hn5⟩ : ∃ n5, n5 = (l.take p ++ (i, s) :: l.drop p).length := ⟨_, rfl⟩
                  have HN5 : Hid (n5 = (l.take p ++ (i, s) :: l.drop p).length) := hn5
                  rw [← hn5] at HO5 ⊢
                  clear ho5 hb5 hg5 hn5
                  go_wp2
                  go_ret
                  unfold RPut
                  have e : putL l (i, s) = l.take p ++ (i, s) :: l.drop p := by rw [HIN.out, HEP.out]
                  rw [e]
                  refine ⟨a5, n5, c5, rfl, Kd.mono (own_scs HO5.out ?_ fun x hx => ?_) (fun k hk => .inr (Nat.le_trans z2 hk)), HB5.out⟩
                  · simp only [List.length_append, List.length_take, List.length_drop, List.length_cons, ← HNL.out]; omega
                  · rcases List.mem_append.1 hx with h1 | h1
                    · exact HI.out x (List.mem_of_mem_take h1)
                    · rcases List.mem_cons.1 h1 with rfl | h1
                      · exact HIS.out
                      · exact HI.out x (List.mem_of_mem_drop h1)
                | some ad =>
                  go_wp2_with (first | (at_builtin; go_loud (refine app_scs rfl _ _ rfl w2.heap.size _ (l.take p ++ [(i, s)]) rfl HO4.out _ _ _ S (l.drop p) rfl (HR6.out _ _) (by simp only [List.length_append, List.length_take, List.length_drop, ← HNL.out]; simp; omega) z4 ?_)))
                  intro v5 w5 ho5 hb5 hg5
                  obtain ⟨a5, c5, rfl, _⟩ := ho5.form
                  have HO5 : Hid (OwnL scC 60 2 w5 w2.heap.size (.slice a5 (l.take p ++ (i, s) :: l.drop p).length c5) (l.take p ++ (i, s) :: l.drop p)) := ho5
                  have HB5 : Hid (Below w.heap.size w w5) := HB4w.out.trans (hb5.mono z2)
                  obtain ⟨n5, hn5⟩ : ∃ n5, n5 = (l.take p ++ (i, s) :: l.drop p).length := ⟨_, rfl⟩
                  have HN5 : Hid (n5 = (l.take p ++ (i, s) :: l.drop p).length) := hn5
                  rw [← hn5] at HO5 ⊢
                  clear ho5 hb5 hg5 hn5
                  go_wp2
                  go_ret
                  unfold RPut
                  have e : putL l (i, s) = l.take p ++ (i, s) :: l.drop p := by rw [HIN.out, HEP.out]
                  rw [e]
                  refine ⟨a5, n5, c5, rfl, Kd.mono (own_scs HO5.out ?_ fun x hx => ?_) (fun k hk => .inr (Nat.le_trans z2 hk)), HB5.out⟩
                  · simp only [List.length_append, List.length_take, List.length_drop, List.length_cons, ← HNL.out]; omega
                  · rcases List.mem_append.1 hx with h1 | h1
                    · exact HI.out x (List.mem_of_mem_take h1)
                    · rcases List.mem_cons.1 h1 with rfl | h1
                      · exact HIS.out
                      · exact HI.out x (List.mem_of_mem_drop h1)
        · have HEP : Hid (p = P) := by have := HK.out; rw [List.drop_eq_nil_of_le (by rw [← HNL.out]; omega), posL] at this; show _ = _; omega
          have kpb : decide (p < n) = false := decide_eq_false hpl
          go_wp2_with fail
          refine region_below (by kernel_rfl) (by kernel_rfl) ?_
          repeat (go_big_quiet_step (fail))
          refine wpQuiet_nil (belowOf_all ?_)
          intro w2 hb2
          clear kpb
          have HB2 : Hid (Below w.heap.size w w2) := HBQ.out.trans (hb2.mono HBQ.out.size)
          have V0 := cell_later hb2 Z0
          have V1 := cell_later hb2 Z1
          have HR1 : Hid ((kRow kScored).is false w2 S [.slice a p c] (l.take p)) := row_take (Kd.below H.out HB2.out) hp
          have z2 : w.heap.size ≤ w2.heap.size := HB2.out.size
          have p0 : ¬ (p : Int) < 0 := by omega
          have pc : (p : Int) ≤ (c : Int) := by omega
          have pn : (p : Int) ≤ (n : Int) := by omega
          clear hb2 U0 U1 hne HK Z0 Z1
          go_wp2_with (first | (at_builtin; go_loud (refine app_scs rfl _ _ rfl w2.heap.size _ [] rfl (OwnL.nil _ _ _ _ _) a p c S (l.take p) rfl HR1.out (by simp; omega) (Nat.le_refl _) ?_)))
          intro v3 w3 ho3 hb3 hg3
          obtain ⟨a3, c3, rfl, _⟩ := ho3.form
          have HO3 : Hid (OwnL scC 60 2 w3 w2.heap.size (.slice a3 (l.take p).length c3) (l.take p)) := ho3
          have HB3 : Hid (Below w2.heap.size w2 w3) := hb3
          have zlt : w.heap.size < w2.heap.size := by have := World.block_lt_of_cell? _ _ V0; exact this
          have T0 : w3.cell? ⟨w.heap.size, 0, none⟩ = some (.int .i64 i) := (hb3.cell zlt).trans V0
          have T1 : w3.cell? ⟨w.heap.size, 1, none⟩ = some (.int .i64 s) := (hb3.cell zlt).trans V1
          have z3 := hb3.size
          have hlp : (l.take p).length = p := by rw [List.length_take, ← HNL.out]; omega
          rw [hlp] at HO3 ⊢
          clear ho3 hb3 hg3 hlp V0 V1
          go_wp2_with (first | (at_builtin; go_loud (refine app_sc rfl _ _ rfl w2.heap.size _ (l.take p) rfl (OwnL.below HO3.out (below_a1r _ _)) _ (i, s) rfl (by simp [go_sem]) (by simp [go_sem]) (by rw [List.length_take]; omega) (by simp; omega) ?_)))
          intro v4 w4 ho4 hb4 hg4
          obtain ⟨a4, c4, rfl, _⟩ := ho4.form
          have hlp4 : (l.take p ++ [(i, s)]).length = p + 1 := by rw [List.length_append, List.length_take, ← HNL.out]; simp; omega
          have HO4 : Hid (OwnL scC 60 2 w4 w2.heap.size (.slice a4 (p + 1) c4) (l.take p ++ [(i, s)])) := by have := ho4; rw [hlp4] at this; exact this
          have HB4 : Hid (Below w2.heap.size w2 w4) := (HB3.out.alloc z3 _).trans hb4
          have z4 : w2.heap.size ≤ w4.heap.size := HB4.out.size
          rw [hlp4]
          clear ho4 hb4 hg4 hlp4 T0 T1
          have HB4w : Hid (Below w.heap.size w w4) := HB2.out.trans (HB4.out.mono z2)
          by_cases hpn : p < n
          · exact absurd hpn hpl
          · have HR6 : Hid (∀ ra c', (kRow kScored).is false w4 S [.slice ra (n - p) c'] (l.drop p)) := fun ra c' => by rw [List.drop_eq_nil_of_le (by rw [← HNL.out]; omega), show n - p = 0 by omega]; exact row_nil _ _ _ _ _ _
            by_cases hpc : (p : Int) < (c : Int)
            · cases a with
              | none =>
                go_wp2_with (first | (at_builtin; go_loud (refine app_scs rfl _ _ rfl w2.heap.size _ (l.take p ++ [(i, s)]) rfl HO4.out _ _ _ S (l.drop p) rfl (HR6.out _ _) (by simp only [List.length_append, List.length_take, List.length_drop, ← HNL.out]; simp; omega) z4 ?_)))
                intro v5 w5 ho5 hb5 hg5
                obtain ⟨a5, c5, rfl, _⟩ := ho5.form
                have HO5 : Hid (OwnL scC 60 2 w5 w2.heap.size (.slice a5 (l.take p ++ (i, s) :: l.drop p).length c5) (l.take p ++ (i, s) :: l.drop p)) := ho5
                have HB5 : Hid (Below w.heap.size w w5) := HB4w.out.trans (hb5.mono z2)
                obtain ⟨n5, hn5⟩ : ∃ n5, n5 = (l.take p ++ (i, s) :: l.drop p).length := ⟨_, rfl⟩
                have HN5 : Hid (n5 = (l.take p ++ (i, s) :: l.drop p).length) := hn5
                rw [← hn5] at HO5 ⊢
                clear ho5 hb5 hg5 hn5
                go_wp2
                go_ret
                unfold RPut
                have e : putL l (i, s) = l.take p ++ (i, s) :: l.drop p := by rw [HIN.out, HEP.out]
                rw [e]
                refine ⟨a5, n5, c5, rfl, Kd.mono (own_scs HO5.out ?_ fun x hx => ?_) (fun k hk => .inr (Nat.le_trans z2 hk)), HB5.out⟩
                · simp only [List.length_append, List.length_take, List.length_drop, List.length_cons, ← HNL.out]; omega
                · rcases List.mem_append.1 hx with h1 | h1
                  · exact HI.out x (List.mem_of_mem_take h1)
                  · rcases List.mem_cons.1 h1 with rfl | h1
                    · exact HIS.out
                    · exact HI.out x (List.mem_of_mem_drop h1)
              | some ad =>
                go_wp2_with (first | (at_builtin; go_loud (refine app_scs rfl _ _ rfl w2.heap.size _ (l.take p ++ [(i, s)]) rfl HO4.out _ _ _ S (l.drop p) rfl (HR6.out _ _) (by simp only [List.length_append, List.length_take, List.length_drop, ← HNL.out]; simp; omega) z4 ?_)))
                intro v5 w5 ho5 hb5 hg5
                obtain ⟨a5, c5, rfl, _⟩ := ho5.form
                have HO5 : Hid (OwnL scC 60 2 w5 w2.heap.size (.slice a5 (l.take p ++ (i, s) :: l.drop p).length c5) (l.take p ++ (i, s) :: l.drop p)) := ho5
                have HB5 : Hid (Below w.heap.size w w5) := HB4w.out.trans (hb5.mono z2)
                obtain ⟨n5, hn5⟩ : ∃ n5, n5 = (l.take p ++ (i, s) :: l.drop p).length := ⟨_, rfl⟩
                have HN5 : Hid (n5 = (l.take p ++ (i, s) :: l.drop p).length) := hn5
                rw [← hn5] at HO5 ⊢
                clear ho5 hb5 hg5 hn5
                go_wp2
                go_ret
                unfold RPut
                have e : putL l (i, s) = l.take p ++ (i, s) :: l.drop p := by rw [HIN.out, HEP.out]
                rw [e]
                refine ⟨a5, n5, c5, rfl, Kd.mono (own_scs HO5.out ?_ fun x hx => ?_) (fun k hk => .inr (Nat.le_trans z2 hk)), HB5.out⟩
                · simp only [List.length_append, List.length_take, List.length_drop, List.length_cons, ← HNL.out]; omega
                · rcases List.mem_append.1 hx with h1 | h1
                  · exact HI.out x (List.mem_of_mem_take h1)
                  · rcases List.mem_cons.1 h1 with rfl | h1
                    · exact HIS.out
                    · exact HI.out x (List.mem_of_mem_drop h1)
            · cases a with
              | none =>
                go_wp2_with (first | (at_builtin; go_loud (refine app_scs rfl _ _ rfl w2.heap.size _ (l.take p ++ [(i, s)]) rfl HO4.out _ _ _ S (l.drop p) rfl (HR6.out _ _) (by simp only [List.length_append, List.length_take, List.length_drop, ← HNL.out]; simp; omega) z4 ?_)))
                intro v5 w5 ho5 hb5 hg5
                obtain ⟨a5, c5, rfl, _⟩ := ho5.form
                have HO5 : Hid (OwnL scC 60 2 w5 w2.heap.size (.slice a5 (l.take p ++ (i, s) :: l.drop p).length c5) (l.take p ++ (i, s) :: l.drop p)) := ho5
                have HB5 : Hid (Below w.heap.size w w5) := HB4w.out.trans (hb5.mono z2)
                obtain ⟨n5, hn5⟩ : ∃ n5, n5 = (l.take p ++ (i, s) :: l.drop p).length := ⟨_, rfl⟩
                have HN5 : Hid (n5 = (l.take p ++ (i, s) :: l.drop p).length) := hn5
                rw [← hn5] at HO5 ⊢
                clear ho5 hb5 hg5 hn5
                go_wp2
                go_ret
                unfold RPut
                have e : putL l (i, s) = l.take p ++ (i, s) :: l.drop p := by rw [HIN.out, HEP.out]
                rw [e]
                refine ⟨a5, n5, c5, rfl, Kd.mono (own_scs HO5.out ?_ fun x hx => ?_) (fun k hk => .inr (Nat.le_trans z2 hk)), HB5.out⟩
                · simp only [List.length_append, List.length_take, List.length_drop, List.length_cons, ← HNL.out]; omega
                · rcases List.mem_append.1 hx with h1 | h1
                  · exact HI.out x (List.mem_of_mem_take h1)
                  · rcases List.mem_cons.1 h1 with rfl | h1
                    · exact HIS.out
                    · exact HI.out x (List.mem_of_mem_drop h1)
              | some ad =>
                go_wp2_with (first | (at_builtin; go_loud (refine app_scs rfl _ _ rfl w2.heap.size _ (l.take p ++ [(i, s)]) rfl HO4.out _ _ _ S (l.drop p) rfl (HR6.out _ _) (by simp only [List.length_append, List.length_take, List.length_drop, ← HNL.out]; simp; omega) z4 ?_)))
                intro v5 w5 ho5 hb5 hg5
                obtain ⟨a5, c5, rfl, _⟩ := ho5.form
                have HO5 : Hid (OwnL scC 60 2 w5 w2.heap.size (.slice a5 (l.take p ++ (i, s) :: l.drop p).length c5) (l.take p ++ (i, s) :: l.drop p)) := ho5
                have HB5 : Hid (Below w.heap.size w w5) := HB4w.out.trans (hb5.mono z2)
                obtain ⟨n5, hn5⟩ : ∃ n5, n5 = (l.take p ++ (i, s) :: l.drop p).length := ⟨_, rfl⟩
                have HN5 : Hid (n5 = (l.take p ++ (i, s) :: l.drop p).length) := hn5
                rw [← hn5] at HO5 ⊢
                clear ho5 hb5 hg5 hn5
                go_wp2
                go_ret
                unfold RPut
                have e : putL l (i, s) = l.take p ++ (i, s) :: l.drop p := by rw [HIN.out, HEP.out]
                rw [e]
                refine ⟨a5, n5, c5, rfl, Kd.mono (own_scs HO5.out ?_ fun x hx => ?_) (fun k hk => .inr (Nat.le_trans z2 hk)), HB5.out⟩
                · simp only [List.length_append, List.length_take, List.length_drop, List.length_cons, ← HNL.out]; omega
                · rcases List.mem_append.1 hx with h1 | h1
                  · exact HI.out x (List.mem_of_mem_take h1)
                  · rcases List.mem_cons.1 h1 with rfl | h1
                    · exact HIS.out
                    · exact HI.out x (List.mem_of_mem_drop h1)
end Go.Proofs.Ytikgcgfigcolmaa
