/- How deep a treap is: the program and the specification. -/
import Derived.Test.YtmiofccmimhabaaTpH
namespace Go.Proofs.Ytmiofccmimhabaa
open Go.RowKit
set_option linter.unusedVariables false

def Bt.dep : Bt → Nat
  | .nil => 0
  | .node _ _ _ l r => 1 + max l.dep r.dep
theorem Bt.dep_sz (t : Bt) : t.dep ≤ t.sz := by
  induction t with
  | nil => exact Nat.le_refl _
  | node b k v l r ihl ihr => simp [Bt.dep, Bt.sz]; omega
theorem Bt.dep_sh (t : Bt) : t.sh.dep = t.dep := by
  induction t with
  | nil => rfl
  | node b k v l r ihl ihr => simp [Bt.sh, Bt.dep, ihl, ihr]

def DepSaid (t : Bt) : Prop := ∀ (w : World), BrAt w t → t.sz ≤ 2 ^ 20 →
    Calls Try.prog 56 #[.pointer t.pa] w fun e w' => e = .returned (.int .i64 (t.dep : Int)) ∧ ∃ n, w' = w.drewN n

set_option maxRecDepth 100000 in
set_option maxHeartbeats 2000000 in
theorem dep_node (b : Nat) (k v : ByteArray) (l r : Bt) (ihl : DepSaid l) (ihr : DepSaid r) : DepSaid (.node b k v l r) := by
  intro w h hs
  have HS : Hid (BrAt w (.node b k v l r)) := h
  obtain ⟨⟨a0, a1, a2, a3, a4⟩, _⟩ := h.1
  have hl1 := Bt.dep_sz l
  have hr1 := Bt.dep_sz r
  have hsz : l.sz ≤ 2 ^ 20 ∧ r.sz ≤ 2 ^ 20 := by rw [Bt.sz] at hs; omega
  have HD : Hid ((Bt.node b k v l r).dep = 1 + max l.dep r.dep) := rfl
  have HL : Hid (∀ n, Calls Try.prog 56 #[.pointer l.pa] (w.drewN n) fun e w' => e = .returned (.int .i64 (l.dep : Int)) ∧ ∃ m, w' = (w.drewN n).drewN m) := fun n => ihl _ (HS.out.2.1.drewN n) hsz.1
  have HR : Hid (∀ n, Calls Try.prog 56 #[.pointer r.pa] (w.drewN n) fun e w' => e = .returned (.int .i64 (r.dep : Int)) ∧ ∃ m, w' = (w.drewN n).drewN m) := fun n => ihr _ (HS.out.2.2.drewN n) hsz.2
  have hdl : l.dep ≤ 2 ^ 20 := by omega
  have hdr : r.dep ≤ 2 ^ 20 := by omega
  clear h hl1 hr1 hs hsz
  show Calls _ _ #[.pointer (some ⟨b, 0, none⟩)] w _
  go_enter Try.func56, Try.ntmps56
  go_wp2_with fail
  go_big_quiet (first | (go_at_call_of 56 (Value.pointer l.pa); exact Calls.quiet_of (HL.out _)) | (go_at_call_of 56 (Value.pointer r.pa); exact Calls.quiet_of (HR.out _)))
  go_wp2
  all_goals
    refine bodyPost_ret (by simp [results, Try.results56, go_sem]; rfl) rfl ⟨?_, nq, rfl⟩
    rw [HD.out]
    congr 2
    omega

set_option maxHeartbeats 400000 in
theorem dep_any (t : Bt) : DepSaid t := by
  induction t with
  | nil =>
    intro w _ _
    show Calls _ _ #[.pointer none] w _
    go_enter Try.func56, Try.ntmps56
    go_wp2
    go_ret
    exact ⟨rfl, 0, rfl⟩
  | node b k v l r ihl ihr => exact dep_node b k v l r ihl ihr

/-- What l7Deep answers. -/
def DeepSaid (t : Bt) : Prop := ∀ (s n : Nat) (N : Nat → Lb) (a : Option Addr) (c : Nat) (w : World), (∀ i x, (t.limbs s)[i]? = some x → N (s + i) = x) → s + t.sz ≤ n → n ≤ 60 → RowIs w w.heap.size (.slice a n c) n N →
    Calls Try.prog 55 #[.agg #[.slice a n c], .int .i64 (t.top s)] w fun e w' => e = .returned (.int .i64 (t.dep : Int)) ∧ Below w.heap.size w w'

set_option maxRecDepth 100000 in
set_option maxHeartbeats 2000000 in
theorem deep_node (b : Nat) (k v : ByteArray) (l r : Bt) (ihl : DeepSaid l) (ihr : DeepSaid r) : DeepSaid (.node b k v l r) := by
  intro s n N a c w hN hs hn hr
  rw [Bt.sz] at hs
  have h0 : N s = ⟨k, v, l.top (s + 1), r.top (s + 1 + l.sz)⟩ := by
    have := hN 0 ⟨k, v, l.top (s + 1), r.top (s + 1 + l.sz)⟩ (by rw [Bt.limbs]; rfl)
    rwa [Nat.add_zero] at this
  have HL : Hid (∀ w', RowIs w' w'.heap.size (.slice a n c) n N → Calls Try.prog 55 #[.agg #[.slice a n c], .int .i64 (l.top (s + 1))] w' fun e w'' => e = .returned (.int .i64 (l.dep : Int)) ∧ Below w'.heap.size w' w'') := fun w' hr' => ihl (s + 1) n N a c w' (fun i x hx => by
      have := hN (1 + i) x (by
        rw [Bt.limbs, Nat.add_comm 1 i, List.getElem?_cons_succ, List.getElem?_append_left (List.getElem?_eq_some_iff.1 hx).1]
        exact hx)
      rwa [show s + (1 + i) = s + 1 + i by omega] at this) (by omega) hn hr'
  have HR : Hid (∀ w', RowIs w' w'.heap.size (.slice a n c) n N → Calls Try.prog 55 #[.agg #[.slice a n c], .int .i64 (r.top (s + 1 + l.sz))] w' fun e w'' => e = .returned (.int .i64 (r.dep : Int)) ∧ Below w'.heap.size w' w'') := fun w' hr' => ihr (s + 1 + l.sz) n N a c w' (fun i x hx => by
      have := hN (1 + l.sz + i) x (by
        rw [Bt.limbs, show 1 + l.sz + i = (l.sz + i) + 1 by omega, List.getElem?_cons_succ, List.getElem?_append_right (by rw [Bt.limbs_len]; omega), Bt.limbs_len, Nat.add_sub_cancel_left]
        exact hx)
      rwa [show s + (1 + l.sz + i) = s + 1 + l.sz + i by omega] at this) (by omega) hn hr'
  have hl1 := Bt.dep_sz l
  have hr1 := Bt.dep_sz r
  have HRW : Hid (RowIs w w.heap.size (.slice a n c) n N) := hr
  obtain ⟨a', c', e', hn40, hrow⟩ := hr
  cases e'
  rcases hrow with h1 | ⟨g, off, rfl, hg, hat⟩
  · omega
  obtain ⟨a0, a1, a2, a3⟩ := hat s (by omega)
  rw [h0] at a0 a1 a2 a3
  dsimp only at a0 a1 a2 a3
  have HAT : Hid (w.cell? ⟨g, off + s * 4 + 2, none⟩ = some (.int .i64 (l.top (s + 1))) ∧ w.cell? ⟨g, off + s * 4 + 3, none⟩ = some (.int .i64 (r.top (s + 1 + l.sz)))) := ⟨a2, a3⟩
  obtain ⟨lt, hlt⟩ : ∃ t, t = l.top (s + 1) := ⟨_, rfl⟩
  obtain ⟨rt, hrt⟩ : ∃ t, t = r.top (s + 1 + l.sz) := ⟨_, rfl⟩
  rw [← hlt] at HL a2 HAT
  rw [← hrt] at HR a3 HAT
  have HD : Hid ((Bt.node b k v l r).dep = 1 + max l.dep r.dep) := rfl
  have j0 : (0 : Int) ≤ (s : Int) := by omega
  have j1 : (s : Int) < (n : Int) := by omega
  have hdl : l.dep ≤ 60 := by omega
  have hdr : r.dep ≤ 60 := by omega
  obtain ⟨ld, hld⟩ : ∃ d, d = l.dep := ⟨_, rfl⟩
  obtain ⟨rd, hrd⟩ : ∃ d, d = r.dep := ⟨_, rfl⟩
  rw [← hld] at HL hdl
  rw [← hrd] at HR hdr
  rw [← hld, ← hrd] at HD
  clear hat h0 hN hl1 hr1 hlt hrt hld hrd hs
  show Calls _ _ #[_, .int .i64 (s : Int)] w _
  go_enter Try.func55, Try.ntmps55
  go_wp2_with fail
  obtain ⟨W0, hW0⟩ : ∃ W0, W0 = w.alloc (.cells #[.slice (some ⟨g, off, none⟩) n c] 31) := ⟨_, rfl⟩
  have b0 : Below w.heap.size w W0 := by rw [hW0]; exact (Below.refl _ _).alloc (Nat.le_refl _) _
  have z0 : W0.heap.size = w.heap.size + 1 := by rw [hW0]; simp
  have t0 : W0.cell? ⟨w.heap.size, 0, none⟩ = some (.slice (some ⟨g, off, none⟩) n c) := by rw [hW0]; simp [go_sem]
  have y2 : W0.cell? ⟨g, off + s * 4 + 2, none⟩ = some (.int .i64 lt) := (b0.cell hg).trans a2
  have y3 : W0.cell? ⟨g, off + s * 4 + 3, none⟩ = some (.int .i64 rt) := (b0.cell hg).trans a3
  rw [← hW0]
  have HK : Hid (∀ w', Below W0.heap.size W0 w' → RowIs w' w'.heap.size (.slice (some ⟨g, off, none⟩) n c) n N ∧ Below w.heap.size w w') := fun w' h => by
    have hb := b0.trans (h.mono (by omega))
    exact ⟨HRW.out.below hb hb.size, hb⟩
  have q0 : w.heap.size < W0.heap.size := by omega
  have qg : g < W0.heap.size := by omega
  clear hW0 b0 a0 a1 a2 a3 HAT
  go_region_held3 (fun w' => w'.cell? ⟨w.heap.size, 0, none⟩ = some (.slice (some ⟨g, off, none⟩) n c) ∧ w'.cell? ⟨g, off + s * 4 + 2, none⟩ = some (.int .i64 lt) ∧ w'.cell? ⟨g, off + s * 4 + 3, none⟩ = some (.int .i64 rt)) (first | exact ⟨t0, y2, y3⟩ | exact ⟨(hc1 _ _ q0).trans t0, (hc1 _ _ qg).trans y2, (hc1 _ _ qg).trans y3⟩)
    (first | (go_at_call 55; refine (HL.out _ (HK.out _ ((Below.refl _ W0).drew)).1).mono ?_; rintro e w1 ⟨rfl, hb1⟩; obtain ⟨hc1, hf1⟩ := bcell hb1))
  have B1 : Below W0.heap.size W0 w1 := (Below.refl _ W0).drew.trans hb1
  have z1 : W0.heap.size ≤ w1.heap.size := B1.size
  have t1 : w1.cell? ⟨w.heap.size, 0, none⟩ = some (.slice (some ⟨g, off, none⟩) n c) := (B1.cell q0).trans t0
  have x2 : w1.cell? ⟨g, off + s * 4 + 2, none⟩ = some (.int .i64 lt) := (B1.cell qg).trans y2
  have x3 : w1.cell? ⟨g, off + s * 4 + 3, none⟩ = some (.int .i64 rt) := (B1.cell qg).trans y3
  have HB1 : Hid (Below W0.heap.size W0 w1) := B1
  have p0 : w.heap.size < w1.heap.size := by omega
  have pg : g < w1.heap.size := by omega
  clear hb1 hc1 hf1 B1 t0 y2 y3
  go_wp2_with fail
  go_region_held3 (fun w' => w'.cell? ⟨w.heap.size, 0, none⟩ = some (.slice (some ⟨g, off, none⟩) n c) ∧ w'.cell? ⟨g, off + s * 4 + 2, none⟩ = some (.int .i64 lt) ∧ w'.cell? ⟨g, off + s * 4 + 3, none⟩ = some (.int .i64 rt)) (first | exact ⟨t1, x2, x3⟩ | exact ⟨(hc2 _ _ p0).trans t1, (hc2 _ _ pg).trans x2, (hc2 _ _ pg).trans x3⟩)
    (first | (go_at_call 55; refine (HR.out _ (HK.out _ (HB1.out.drew)).1).mono ?_; rintro e w2 ⟨rfl, hb2⟩; obtain ⟨hc2, hf2⟩ := bcell hb2))
  have HB2 : Hid (Below w.heap.size w w2) := (HK.out _ (HB1.out.trans (((Below.refl _ w1).drew.trans hb2).mono z1))).2
  clear hb2 hc2 hf2 t1 x2 x3
  by_cases hcmp : ld < rd
  · have hcmp' : (ld : Int) < (rd : Int) := by omega
    go_wp2_with fail
    refine bodyPost_ret (by simp [results, Try.results55, go_sem]; rfl) rfl ⟨?_, HB2.out⟩
    rw [HD.out]
    congr 2
    omega
  · have hcmp' : ¬ (ld : Int) < (rd : Int) := by omega
    go_wp2_with fail
    refine bodyPost_ret (by simp [results, Try.results55, go_sem]; rfl) rfl ⟨?_, HB2.out⟩
    rw [HD.out]
    congr 2
    omega

set_option maxHeartbeats 400000 in
theorem deep_any (t : Bt) : DeepSaid t := by
  induction t with
  | nil =>
    intro s n N a c w _ _ _ _
    show Calls _ _ #[_, .int .i64 (-1)] w _
    go_enter Try.func55, Try.ntmps55
    go_wp2
    go_ret
    exact ⟨rfl, by go_grown⟩
  | node b k v l r ihl ihr => exact deep_node b k v l r ihl ihr

/-- What DeepIn tells: of a good treap its depth. -/
def DpTold (L : List Lb) (d : Int) (q : Bool) : Prop := (GoodL L ∧ q = true ∧ ∃ T : Bt, T.ok ∧ T.limbs 0 = L ∧ d = (T.dep : Int)) ∨ (¬ GoodL L ∧ q = false ∧ d = 0)
theorem limbs_shape : ∀ (s t : Bt) (i : Nat), s.limbs i = t.limbs i → s.sh = t.sh
  | .nil, .nil, _, _ => rfl
  | .nil, .node .., _, h => by simp [Bt.limbs] at h
  | .node .., .nil, _, h => by simp [Bt.limbs] at h
  | .node b k v l r, .node b' k' v' l' r', i, h => by
    rw [Bt.limbs, Bt.limbs, List.cons.injEq] at h
    obtain ⟨h1, h2⟩ := h
    simp only [Lb.mk.injEq] at h1
    obtain ⟨rfl, rfl, hl, hr⟩ := h1
    have hlen : l.sz + r.sz = l'.sz + r'.sz := by
      have := congrArg List.length h2
      simpa [Bt.limbs_len] using this
    have hsz : l.sz = l'.sz := by
      cases r with
      | nil =>
        cases r' with
        | nil => simpa [Bt.sz] using hlen
        | node => simp [Bt.top] at hr; omega
      | node =>
        cases r' with
        | nil => simp [Bt.top] at hr; omega
        | node => simp [Bt.top] at hr; omega
    have e := List.append_inj h2 (by rw [Bt.limbs_len, Bt.limbs_len, hsz])
    have e2 := e.2
    rw [← hsz] at e2
    rw [Bt.sh, Bt.sh, limbs_shape l l' _ e.1, limbs_shape r r' _ e2]
theorem DpTold.same {L : List Lb} {d d' : Int} {q q' : Bool} (h : DpTold L d q) (k : DpTold L d' q') : d = d' ∧ q = q' := by
  rcases h with ⟨h1, h2, T, _, h3, h4⟩ | ⟨h1, h2, h3⟩
  · rcases k with ⟨k1, k2, S, _, k3, k4⟩ | ⟨k1, _⟩
    · have := limbs_shape T S 0 (h3.trans k3.symm)
      refine ⟨?_, by rw [h2, k2]⟩
      rw [h4, k4, ← Bt.dep_sh T, this, Bt.dep_sh]
    · exact absurd h1 k1
  · rcases k with ⟨k1, _⟩ | ⟨k1, k2, k3⟩
    · exact absurd k1 h1
    · exact ⟨by rw [h3, k3], by rw [h2, k2]⟩
end Go.Proofs.Ytmiofccmimhabaa
