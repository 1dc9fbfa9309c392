/- What the specification's look at a treap comes to, as mathematics. -/
import Derived.Test.YtnmbnebofbdmfaaTpP
namespace Go.Proofs.Ytnmbnebofbdmfaa
open Go.RowKit
set_option linter.unusedVariables false

/-- The pairs below a tree's root. -/
theorem prsM_tree {N : Nat → Lb} {n : Nat} (hn : n ≤ 60) : ∀ (t : Bt) (s f : Nat), (∀ i x, (t.limbs s)[i]? = some x → N (s + i) = x) → s + t.sz ≤ n → t.sz ≤ f → prsM N n f (t.top s) = some t.ino
  | .nil, s, f, _, _, _ => by cases f <;> rw [Bt.top, prsM, if_pos rfl] <;> rfl
  | .node b k v l r, s, f, hN, hs, hf => by
    rw [Bt.sz] at hs hf
    obtain _ | f := f
    · omega
    have h0 : N s = ⟨k, v, l.top (s + 1), r.top (s + 1 + l.sz)⟩ := by
      have := hN 0 ⟨k, v, l.top (s + 1), r.top (s + 1 + l.sz)⟩ (by rw [Bt.limbs]; rfl)
      rwa [Nat.add_zero] at this
    have hl := prsM_tree hn l (s + 1) f (fun i x hx => by
      have := hN (1 + i) x (by
        rw [Bt.limbs, Nat.add_comm 1 i, List.getElem?_cons_succ, List.getElem?_append_left (List.getElem?_eq_some_iff.1 hx).1]
        exact hx)
      rwa [show s + (1 + i) = s + 1 + i by omega] at this) (by omega) (by omega)
    have hr := prsM_tree hn r (s + 1 + l.sz) f (fun i x hx => by
      have := hN (1 + l.sz + i) x (by
        rw [Bt.limbs, show 1 + l.sz + i = (l.sz + i) + 1 by omega, List.getElem?_cons_succ, List.getElem?_append_right (by rw [Bt.limbs_len]; omega), Bt.limbs_len, Nat.add_sub_cancel_left]
        exact hx)
      rwa [show s + (1 + l.sz + i) = s + 1 + l.sz + i by omega] at this) (by omega) (by omega)
    have tl : l.top (s + 1) = -1 ∨ l.top (s + 1) = ((s + 1 : Nat) : Int) := by cases l <;> simp [Bt.top]
    have tr : r.top (s + 1 + l.sz) = -1 ∨ r.top (s + 1 + l.sz) = ((s + 1 + l.sz : Nat) : Int) := by cases r <;> simp [Bt.top]
    rw [Bt.top, prsM, if_neg (by omega), if_neg (by omega), Int.toNat_natCast, h0]
    dsimp only
    rw [if_neg (by omega), hl, hr]
    dsimp only
    rw [if_neg (by rw [Bt.ino_len, Bt.ino_len]; omega), Bt.ino]

/-- Left and Right, limb by limb. -/
def kidsL (L : List Lb) : List Int := L.flatMap fun x => [x.left, x.right]
theorem kids_app (a b : List Lb) : kidsL (a ++ b) = kidsL a ++ kidsL b := by simp [kidsL]
def kidsF (L : List Lb) : List Int := (kidsL L).filter (fun c => decide (c ≠ -1))
theorem kidsF_app (a b : List Lb) : kidsF (a ++ b) = kidsF a ++ kidsF b := by unfold kidsF; rw [kids_app, List.filter_append]
theorem kidsF_cons (x : Lb) (b : List Lb) : kidsF (x :: b) = kidsF [x] ++ kidsF b := kidsF_app [x] b
/-- All that are told lie behind the first one, and within. -/
theorem kids_in : ∀ (t : Bt) (s : Nat) (c : Int), c ∈ kidsF (t.limbs s) → (s : Int) < c ∧ c < (s : Int) + t.sz
  | .nil, s, c, h => by simp [Bt.limbs, kidsF, kidsL] at h
  | .node b k v l r, s, c, h => by
    rw [Bt.limbs, kidsF_cons, kidsF_app, List.mem_append, List.mem_append] at h
    rw [Bt.sz]
    rcases h with h | h | h
    · simp [kidsF, kidsL] at h
      obtain ⟨h1, hc⟩ := h
      rcases h1 with rfl | rfl
      · cases l with
        | nil => exact absurd rfl hc
        | node => simp [Bt.top, Bt.sz]; omega
      · cases r with
        | nil => exact absurd rfl hc
        | node => simp [Bt.top, Bt.sz]; omega
    · have := kids_in l (s + 1) c h
      omega
    · have := kids_in r (s + 1 + l.sz) c h
      omega
/-- No number is told twice. -/
theorem kids_nodup : ∀ (t : Bt) (s : Nat), (kidsF (t.limbs s)).Nodup
  | .nil, s => by simp [Bt.limbs, kidsF, kidsL]
  | .node b k v l r, s => by
    rw [Bt.limbs, kidsF_cons, kidsF_app]
    have hl : ∀ c, c = l.top (s + 1) → c ≠ -1 → c = (s : Int) + 1 ∧ 0 < l.sz := by
      rintro c rfl h
      cases l with
      | nil => exact absurd rfl h
      | node => simp [Bt.top, Bt.sz]; omega
    have hr : ∀ c, c = r.top (s + 1 + l.sz) → c ≠ -1 → c = (s : Int) + 1 + l.sz := by
      rintro c rfl h
      cases r with
      | nil => exact absurd rfl h
      | node => simp [Bt.top]
    rw [List.nodup_append, List.nodup_append]
    refine ⟨?_, ⟨kids_nodup l _, kids_nodup r _, fun x hx y hy e => ?_⟩, fun x hx y hy e => ?_⟩
    · simp only [kidsF, kidsL, List.flatMap_cons, List.flatMap_nil, List.append_nil]
      by_cases h1 : l.top (s + 1) = -1
      · by_cases h2 : r.top (s + 1 + l.sz) = -1
        · simp [h1, h2]
        · simp [h1, h2]
      · by_cases h2 : r.top (s + 1 + l.sz) = -1
        · simp [h1, h2]
        · have e1 := hl _ rfl h1
          have e2 := hr _ rfl h2
          simp [h1, h2]
          omega
    · have h1 := kids_in l _ x hx
      have h2 := kids_in r _ y hy
      omega
    · subst e
      have hx' : (x = l.top (s + 1) ∨ x = r.top (s + 1 + l.sz)) ∧ x ≠ -1 := by simpa [kidsF, kidsL] using hx
      rw [List.mem_append] at hy
      rcases hx'.1 with h | h
      · have e1 := hl x h hx'.2
        rcases hy with hy | hy
        · have := kids_in l _ x hy; omega
        · have := kids_in r _ x hy; omega
      · have e1 := hr x h hx'.2
        rcases hy with hy | hy
        · have := kids_in l _ x hy; omega
        · have := kids_in r _ x hy; omega
/-- A limb's own numbers lie behind it. -/
theorem kids_behind : ∀ (t : Bt) (s i : Nat) (x : Lb), (t.limbs s)[i]? = some x → ∀ c ∈ kidsF [x], ((s + i : Nat) : Int) < c
  | .nil, s, i, x, h, c, _ => by simp [Bt.limbs] at h
  | .node b k v l r, s, i, x, h, c, hc => by
    rw [Bt.limbs] at h
    cases i with
    | zero =>
      simp at h
      subst h
      have hx' : (c = l.top (s + 1) ∨ c = r.top (s + 1 + l.sz)) ∧ c ≠ -1 := by simpa [kidsF, kidsL] using hc
      rcases hx'.1 with rfl | rfl
      · cases l with
        | nil => exact absurd rfl hx'.2
        | node => simp [Bt.top]; omega
      · cases r with
        | nil => exact absurd rfl hx'.2
        | node => simp [Bt.top]; omega
    | succ i =>
      rw [List.getElem?_cons_succ] at h
      rcases Nat.lt_or_ge i l.sz with hlt | hge
      · rw [List.getElem?_append_left (by rw [Bt.limbs_len]; exact hlt)] at h
        have := kids_behind l (s + 1) i x h c hc
        omega
      · rw [List.getElem?_append_right (by rw [Bt.limbs_len]; exact hge), Bt.limbs_len] at h
        have := kids_behind r (s + 1 + l.sz) (i - l.sz) x h c hc
        omega
/-- What a good treap's numbers are. -/
theorem good_kids {L : List Lb} (h : GoodL L) : (kidsF L).Nodup ∧ ∀ (i : Nat) (x : Lb), L[i]? = some x → ∀ c ∈ kidsF [x], (i : Int) + 1 ≤ c ∧ c ≤ (L.length : Int) - 1 := by
  obtain ⟨_, _, T, hT, rfl⟩ := h
  refine ⟨kids_nodup T 0, fun i x hx c hc => ?_⟩
  have h1 := kids_behind T 0 i x hx c hc
  have h2 := kids_in T 0 c (by
    have hi := (List.getElem?_eq_some_iff.1 hx)
    obtain ⟨hi, rfl⟩ := hi
    have e : T.limbs 0 = (T.limbs 0).take i ++ (T.limbs 0)[i] :: (T.limbs 0).drop (i + 1) := by simp
    rw [e, kidsF_app, kidsF_cons, List.mem_append, List.mem_append]
    exact .inr (.inl hc))
  rw [Bt.limbs_len]
  omega
theorem good_pairs {L : List Lb} {T : Bt} (hL : L.length ≤ 60) (h : T.limbs 0 = L) (hne : L ≠ []) : prsM (lbAt L) L.length 60 0 = some T.ino := by
  have hs : T.sz = L.length := by rw [← h, Bt.limbs_len]
  have := prsM_tree (N := lbAt L) hL T 0 60 (fun i x hx => by
    rw [Nat.zero_add]
    rw [h] at hx
    obtain ⟨hi, rfl⟩ := List.getElem?_eq_some_iff.1 hx
    exact lbAt_get hi) (by omega) (by omega)
  cases T with
  | nil => rw [Bt.limbs] at h; exact absurd h.symm hne
  | node b k v l r => exact this
/-- The look's end: of rising pairs with keys and values as said the tree has these limbs just where they are a good treap. -/
theorem good_end {L : List Lb} {T : Bt} (hL : L.length ≤ 60) (hne : L ≠ []) (hT : T.ok) (hp : prsM (lbAt L) L.length 60 0 = some T.ino) (he : ∀ p ∈ T.ino, entryB p.1 p.2 = true) : GoodL L ↔ T.limbs 0 = L := by
  constructor
  · rintro ⟨_, _, S, hS, h⟩
    have := good_pairs hL h hne
    rw [hp] at this
    have e : T.ino = S.ino := by simpa using this
    rw [← Bt.limbs_sh T, one_shape T S hT hS e, Bt.limbs_sh, h]
  · intro h
    refine ⟨hL, fun x hx => ?_, T, hT, h⟩
    exact he (x.key, x.val) ((Bt.limbs_kv T (x.key, x.val) 0).1 (by rw [h]; exact List.mem_map.2 ⟨x, hx, rfl⟩))
/-- Of a good treap the pairs rise and are as said. -/
theorem good_rows {L : List Lb} (h : GoodL L) (hne : L ≠ []) : ∃ l, prsM (lbAt L) L.length 60 0 = some l ∧ l.length = L.length ∧ Srt l ∧ ∀ p ∈ l, entryB p.1 p.2 = true := by
  obtain ⟨hL, he, T, hT, hl⟩ := h
  refine ⟨T.ino, good_pairs hL hl hne, by rw [Bt.ino_len, ← hl, Bt.limbs_len], hT.1, fun p hp => ?_⟩
  have := (Bt.limbs_kv T p 0).2 hp
  rw [hl] at this
  obtain ⟨x, hx, rfl⟩ := List.mem_map.1 this
  exact he x hx
/-- What has been told ahead of the j-th number of limb k. -/
def vis (L : List Lb) (k j : Nat) : List Int := kidsF (L.take k) ++ (([(lbAt L k).left, (lbAt L k).right]).take j).filter (fun c => decide (c ≠ -1))
theorem vis_step {L : List Lb} {k j : Nat} {c : Int} (hc : [(lbAt L k).left, (lbAt L k).right][j]? = some c) : vis L k (j + 1) = vis L k j ++ (if c = -1 then [] else [c]) := by
  unfold vis
  rw [List.take_add_one, hc, List.filter_append, List.append_assoc]
  congr 2
  by_cases h : c = -1
  · simp [h]
  · simp [h]
theorem vis_end {L : List Lb} {k : Nat} (hk : k < L.length) : vis L k 2 = vis L (k + 1) 0 := by
  have e : L.take (k + 1) = L.take k ++ [lbAt L k] := by
    rw [List.take_add_one, List.getElem?_eq_getElem hk, lbAt_get hk]
    rfl
  unfold vis
  rw [e, kidsF_app, List.take_zero, List.filter_nil, List.append_nil]
  rfl
theorem vis_good {L : List Lb} {k j : Nat} {c : Int} (h : GoodL L) (hk : k < L.length) (hc : [(lbAt L k).left, (lbAt L k).right][j]? = some c) (h1 : c ≠ -1) : ((k : Int) + 1 ≤ c ∧ c ≤ (L.length : Int) - 1) ∧ c ∉ vis L k j := by
  obtain ⟨hn, hb⟩ := good_kids h
  have hx : L[k]? = some (lbAt L k) := by rw [List.getElem?_eq_getElem hk, lbAt_get hk]
  have hm : c ∈ kidsF [lbAt L k] := by
    unfold kidsF kidsL
    rw [List.mem_filter]
    exact ⟨by have := List.mem_of_getElem? hc; simpa using this, by simpa using h1⟩
  refine ⟨hb k _ hx c hm, fun hv => ?_⟩
  have e : kidsF L = vis L k (j + 1) ++ ((([(lbAt L k).left, (lbAt L k).right]).drop (j + 1)).filter (fun c => decide (c ≠ -1)) ++ kidsF (L.drop (k + 1))) := by
    have e1 : L = L.take k ++ (lbAt L k :: L.drop (k + 1)) := by
      rw [lbAt_get hk]; simp
    have e2 : kidsF [lbAt L k] = (([(lbAt L k).left, (lbAt L k).right]).take (j + 1)).filter (fun c => decide (c ≠ -1)) ++ (([(lbAt L k).left, (lbAt L k).right]).drop (j + 1)).filter (fun c => decide (c ≠ -1)) := by
      rw [← List.filter_append, List.take_append_drop]
      rfl
    conv => lhs; rw [e1]
    rw [kidsF_app, kidsF_cons, e2]
    unfold vis
    simp only [List.append_assoc]
  rw [e, vis_step hc, if_neg h1, List.nodup_append] at hn
  have := hn.1
  rw [List.nodup_append] at this
  exact this.2.2 c hv c (by simp) rfl
/-- All pairs come of limbs. -/
theorem prsM_mem (N : Nat → Lb) (n : Nat) : ∀ f k l, prsM N n f k = some l → ∀ p ∈ l, ∃ i, p = ((N i).key, (N i).val)
  | 0, k, l, h, p, hp => by
    rw [prsM] at h
    split at h
    · cases h; simp at hp
    · cases h
  | f + 1, k, l, h, p, hp => by
    rw [prsM] at h
    split at h
    · cases h; simp at hp
    · split at h
      · cases h
      · split at h
        · cases h
        · split at h
          · rename_i a b ha hb
            split at h
            · cases h
            · cases h
              rw [List.mem_append, List.mem_cons] at hp
              rcases hp with hp | hp | hp
              · exact prsM_mem N n f _ a ha p hp
              · exact ⟨_, hp⟩
              · exact prsM_mem N n f _ b hb p hp
          · cases h
/-- The first i pairs are as said, and rise. -/
def Chk (l : List Pr) (i : Nat) : Prop := (∀ j p, j < i → l[j]? = some p → entryB p.1 p.2 = true) ∧ (∀ j p q, j + 1 < i → l[j]? = some p → l[j + 1]? = some q → kLt p.1 q.1)
theorem srt_chain : ∀ l : List Pr, (∀ j p q, l[j]? = some p → l[j + 1]? = some q → kLt p.1 q.1) → Srt l
  | [], _ => List.Pairwise.nil
  | [x], _ => List.pairwise_singleton _ _
  | x :: y :: l, h => by
    have ih := srt_chain (y :: l) (fun j p q hp hq => h (j + 1) p q (by simpa using hp) (by simpa using hq))
    have hxy := h 0 x y rfl rfl
    unfold Srt at ih ⊢
    rw [List.pairwise_cons]
    refine ⟨fun z hz => ?_, ih⟩
    rw [List.mem_cons] at hz
    rcases hz with rfl | hz
    · exact hxy
    · rw [List.pairwise_cons] at ih
      exact hxy.trans (ih.1 z hz)
theorem chk_end {l : List Pr} (h : Chk l l.length) : Srt l ∧ ∀ p ∈ l, entryB p.1 p.2 = true := by
  refine ⟨srt_chain l fun j p q hp hq => h.2 j p q ?_ hp hq, fun p hp => ?_⟩
  · exact (List.getElem?_eq_some_iff.1 hq).1
  · obtain ⟨j, hj, rfl⟩ := List.getElem_of_mem hp
    exact h.1 j _ hj (List.getElem?_eq_getElem hj)
theorem srt_at {l : List Pr} (h : Srt l) {j : Nat} {p q : Pr} (hp : l[j]? = some p) (hq : l[j + 1]? = some q) : kLt p.1 q.1 := by
  obtain ⟨h1, rfl⟩ := List.getElem?_eq_some_iff.1 hp
  obtain ⟨h2, rfl⟩ := List.getElem?_eq_some_iff.1 hq
  exact List.pairwise_iff_getElem.1 h j (j + 1) h1 h2 (Nat.lt_succ_self _)
end Go.Proofs.Ytnmbnebofbdmfaa
