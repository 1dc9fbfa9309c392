/- A tree without one of the parts that names lead to, and its nodes in a row. No program in this text. A tree with another part at the place that names lead to, and its nodes in a row. No program in this text. Where a part is put, by trees and by nodes. No program in this text. A value with another part: the same by trees and by nodes. No program in this text. -/
import Derived.Test.YtadlflgflnlhjaaGreatDoorHasA
import Derived.Test.YtadlflgflnlhjaaGreatDoorSubL
import Derived.Test.YtadlflgflnlhjaaGreatDoorL1Put
import Derived.Test.YtadlflgflnlhjaaGreatDoorPutB
namespace Go.Proofs.YtadlflgflnlhjaaGreatDoor
open Go.RowKit
set_option linter.unusedVariables false

def dn (e s : Nat) (u : Int) : Int := if (e : Int) ≤ u then u - s else u
/-- A node behind those that went. -/
def downN (e s : Nat) (x : Nd) : Nd := { x with up := dn e s x.up }

theorem flats_down (l : List Tr) (ih : ∀ t ∈ l, ∀ nm (up up' : Int) b e s, dn e s up' = up → e ≤ b + s → t.flat nm up b = (t.flat nm up' (b + s)).map (downN e s)) : ∀ (f g : Nat → ByteArray) (i j up up' b e s : Nat), dn e s (up' : Int) = (up : Int) → e ≤ b + s → (∀ q, q < l.length → g (i + q) = f (j + q)) → Tr.flats l g i up b = (Tr.flats l f j up' (b + s)).map (downN e s) := by
  induction l with
  | nil => intros; rfl
  | cons a l ih2 =>
    intro f g i j up up' b e s hu he hg
    rw [Tr.flats, Tr.flats, List.map_append, ih a (by simp) (g i) (up : Nat) (up' : Nat) b e s hu he]
    have h0 := hg 0 (by simp)
    simp only [Nat.add_zero] at h0
    rw [h0, ih2 (fun t ht => ih t (by simp [ht])) f g (i + 1) (j + 1) up up' (b + a.cnt) e s hu (by omega) (fun q hq => by
      have := hg (q + 1) (by simp; omega)
      rw [show i + 1 + q = i + (q + 1) by omega, show j + 1 + q = j + (q + 1) by omega, this])]
    congr 3
    omega
theorem flat_down (t : Tr) : ∀ nm (up up' : Int) b e s, dn e s up' = up → e ≤ b + s → t.flat nm up b = (t.flat nm up' (b + s)).map (downN e s) := by
  refine Tr.ind (P := fun t => ∀ nm (up up' : Int) b e s, dn e s up' = up → e ≤ b + s → t.flat nm up b = (t.flat nm up' (b + s)).map (downN e s)) (fun k n t nm ks ih => ?_) t
  intro name up up' b e s hu he
  rw [Tr.flat, Tr.flat, List.map_cons]
  congr 1
  · simp only [downN]
    rw [hu]
  · rw [show b + s + 1 = b + 1 + s by omega]
    exact flats_down ks ih _ _ 0 0 b (b + s) (b + 1) e s (by unfold dn; rw [if_pos (by omega)]; omega) (by omega) (fun _ _ => rfl)
theorem flats_down' (l : List Tr) (f g : Nat → ByteArray) (i j up b e s : Nat) (hu : up < e) (he : e ≤ b + s) (hg : ∀ q, q < l.length → g (i + q) = f (j + q)) : Tr.flats l g i up b = (Tr.flats l f j up (b + s)).map (downN e s) :=
  flats_down l (fun t _ => flat_down t) f g i j up up b e s (by unfold dn; rw [if_neg (by omega)]) he hg

theorem flats_names (l : List Tr) : ∀ (f g : Nat → ByteArray) (i up b : Nat), (∀ q, q < l.length → g (i + q) = f (i + q)) → Tr.flats l g i up b = Tr.flats l f i up b := by
  induction l with
  | nil => intros; rfl
  | cons a l ih =>
    intro f g i up b hg
    have h0 := hg 0 (by simp)
    simp only [Nat.add_zero] at h0
    rw [Tr.flats, Tr.flats, h0, ih f g (i + 1) up _ (fun q hq => by
      have := hg (q + 1) (by simp; omega)
      rw [show i + 1 + q = i + (q + 1) by omega, this])]

/-- What is left of a row without s nodes from o on, the first of the row being number b. -/
def cutL (l : List Nd) (o s b : Nat) : List Nd := l.take o ++ (l.drop (o + s)).map (downN (b + o + s) s)

def remT : List ByteArray → Tr → Option Tr
  | [], _ => none
  | x :: r, t => (atI t.kind t.names x t.kids.length).bind fun i => if r.isEmpty then some (cutK t i) else (t.kids[i]?).bind fun y => (remT r y).map (withK t i)
/-- Where the part stands in the row, and how many nodes it has. -/
def posT : List ByteArray → Tr → Option (Nat × Nat)
  | [], t => some (0, t.cnt)
  | x :: r, t => (atI t.kind t.names x t.kids.length).bind fun i => (t.kids[i]?).bind fun y => (posT r y).map fun p => (1 + Tr.cnts (t.kids.take i) + p.1, p.2)

theorem nmOf_cut (k : Int) (nm : List ByteArray) (i : Nat) (q : Nat) : Tr.nmOf k (if k = 7 then nm.eraseIdx i else nm) q = if q < i then Tr.nmOf k nm q else Tr.nmOf k nm (q + 1) := by
  unfold Tr.nmOf
  by_cases h7 : k = 7
  · simp only [h7, if_true]
    rw [List.getD_eq_getElem?_getD, List.getElem?_eraseIdx]
    split <;> simp
  · simp [h7]

theorem rem_some {l : List ByteArray} (hl : l ≠ []) : ∀ t, (remT l t).isSome = (posT l t).isSome := by
  induction l with
  | nil => exact absurd rfl hl
  | cons x r ih =>
    intro t
    rw [remT, posT]
    cases ha : atI t.kind t.names x t.kids.length with
    | none => rfl
    | some i =>
      have hi := atI_lt ha
      show (if r.isEmpty then some (cutK t i) else (t.kids[i]?).bind fun y => (remT r y).map (withK t i)).isSome = ((t.kids[i]?).bind fun y => (posT r y).map fun p => (1 + Tr.cnts (t.kids.take i) + p.1, p.2)).isSome
      rw [List.getElem?_eq_getElem hi]
      show _ = ((posT r _).map _).isSome
      rw [Option.isSome_map]
      cases r with
      | nil => rfl
      | cons z r =>
        show ((remT (z :: r) _).map _).isSome = _
        rw [Option.isSome_map]
        exact ih (by simp) _

theorem cutL_mid (h : Nd) (P M R : List Nd) (o' s b : Nat) (ho : o' + s ≤ M.length) : cutL (h :: (P ++ (M ++ R))) (1 + P.length + o') s b = h :: (P ++ (M.take o' ++ ((M.drop (o' + s)).map (downN (b + (1 + P.length + o') + s) s) ++ R.map (downN (b + (1 + P.length + o') + s) s)))) := by
  unfold cutL
  have e1 : (h :: (P ++ (M ++ R))).take (1 + P.length + o') = h :: (P ++ M.take o') := by
    rw [show 1 + P.length + o' = (P.length + o') + 1 by omega, List.take_succ_cons, List.take_length_add_append, List.take_append_of_le_length (by omega)]
  have e2 : (h :: (P ++ (M ++ R))).drop (1 + P.length + o' + s) = M.drop (o' + s) ++ R := by
    rw [show 1 + P.length + o' + s = (P.length + (o' + s)) + 1 by omega, List.drop_succ_cons, List.drop_length_add_append, List.drop_append_of_le_length (by omega)]
  rw [e1, e2, List.map_append]
  simp

theorem rem_flat : ∀ (l : List ByteArray) (t t' : Tr) (o s : Nat), l ≠ [] → remT l t = some t' → posT l t = some (o, s) → (1 ≤ o ∧ o + s ≤ t.cnt ∧ t'.cnt + s = t.cnt) ∧ ∀ nm (up : Int) b, t'.flat nm up b = cutL (t.flat nm up b) o s b := by
  intro l
  induction l with
  | nil => intro t t' o s h; exact absurd rfl h
  | cons x r ih =>
    intro t t' o s _ hr hp
    obtain ⟨k, n, tx, nm, ks⟩ := t
    rw [remT] at hr
    rw [posT] at hp
    dsimp only [Tr.kind, Tr.names, Tr.kids] at hr hp
    cases ha : atI k nm x ks.length with
    | none => rw [ha] at hr; simp at hr
    | some i =>
      have hi := atI_lt ha
      rw [ha] at hr hp
      simp only [Option.bind_some] at hr hp
      rw [List.getElem?_eq_getElem hi] at hr hp
      obtain ⟨y, hy⟩ : ∃ y, y = ks[i] := ⟨_, rfl⟩
      rw [← hy] at hr hp
      simp only [Option.bind_some] at hr hp
      obtain ⟨A, hA⟩ : ∃ A, A = ks.take i := ⟨_, rfl⟩
      obtain ⟨B, hB⟩ : ∃ B, B = ks.drop (i + 1) := ⟨_, rfl⟩
      have hAl : A.length = i := by rw [hA, List.length_take]; omega
      have hks : ks = A ++ y :: B := by rw [hA, hB, hy, List.getElem_cons_drop, List.take_append_drop]
      rw [← hA] at hp
      have hcnt : Tr.cnts ks = Tr.cnts A + (y.cnt + Tr.cnts B) := by rw [hks, Tr.cnts_append, Tr.cnts]
      have hflat : ∀ nm0 (up : Int) b, (Tr.mk k n tx nm ks).flat nm0 up b = ⟨k, n, tx, nm0, up⟩ :: (Tr.flats A (Tr.nmOf k nm) 0 b (b + 1) ++ (y.flat (Tr.nmOf k nm i) (b : Nat) (b + 1 + Tr.cnts A) ++ Tr.flats B (Tr.nmOf k nm) (i + 1) b (b + 1 + Tr.cnts A + y.cnt))) := by
        intro nm0 up b
        rw [Tr.flat, hks, Tr.flats_append, Tr.flats, hAl, Nat.zero_add]
      have l1 : ∀ b, (Tr.flats A (Tr.nmOf k nm) 0 b (b + 1)).length = Tr.cnts A := fun b => Tr.flats_len _ _ _ _ _
      have l2 : ∀ b, (y.flat (Tr.nmOf k nm i) (b : Nat) (b + 1 + Tr.cnts A)).length = y.cnt := fun b => Tr.flat_length _ _ _ _
      cases r with
      | nil =>
        rw [posT] at hp
        simp only [Option.map_some, Option.some.injEq, Prod.mk.injEq, Nat.add_zero] at hp
        obtain ⟨rfl, rfl⟩ := hp
        have ht' : t' = cutK (.mk k n tx nm ks) i := by simpa using hr.symm
        have hc : (cutK (.mk k n tx nm ks) i) = .mk k n tx (if k = 7 then nm.eraseIdx i else nm) (A ++ B) := by
          rw [cutK]
          congr 1
          rw [List.eraseIdx_eq_take_drop_succ, ← hA, ← hB]
        rw [ht', hc]
        refine ⟨⟨by omega, by rw [Tr.cnt, hcnt]; omega, by rw [Tr.cnt, Tr.cnt, hcnt, Tr.cnts_append]; omega⟩, fun nm0 up b => ?_⟩
        have hmid := cutL_mid ⟨k, n, tx, nm0, up⟩ (Tr.flats A (Tr.nmOf k nm) 0 b (b + 1)) (y.flat (Tr.nmOf k nm i) (b : Nat) (b + 1 + Tr.cnts A)) (Tr.flats B (Tr.nmOf k nm) (i + 1) b (b + 1 + Tr.cnts A + y.cnt)) 0 y.cnt b (by rw [l2]; omega)
        rw [l1] at hmid
        simp only [Nat.add_zero] at hmid
        rw [hflat, hmid, Tr.flat, Tr.flats_append, hAl, Nat.zero_add]
        congr 2
        · refine flats_names A _ _ 0 b (b + 1) (fun q hq => ?_)
          rw [nmOf_cut, if_pos (by omega)]
        · rw [List.take_zero, Nat.zero_add, List.drop_of_length_le (by rw [l2]; omega), List.map_nil, List.nil_append, List.nil_append]
          exact flats_down' B _ _ i (i + 1) b (b + 1 + Tr.cnts A) (b + (1 + Tr.cnts A) + y.cnt) y.cnt (by omega) (by omega) (fun q hq => by rw [nmOf_cut, if_neg (by omega)]; congr 1; omega)
      | cons z r =>
        simp only [List.isEmpty_cons, Bool.false_eq_true, if_false] at hr
        obtain ⟨y', hy', ht'⟩ := Option.map_eq_some_iff.1 hr
        obtain ⟨⟨o', s'⟩, hpy, hpe⟩ := Option.map_eq_some_iff.1 hp
        simp only [Prod.mk.injEq] at hpe
        obtain ⟨rfl, rfl⟩ := hpe
        obtain ⟨⟨h1, h2, h3⟩, h4⟩ := ih y y' o' s' (by simp) hy' hpy
        have hc : withK (.mk k n tx nm ks) i y' = .mk k n tx nm (A ++ y' :: B) := by
          rw [withK]
          congr 1
          rw [hks, List.set_append_right _ _ (by omega), hAl, Nat.sub_self, List.set_cons_zero]
        rw [← ht', hc]
        refine ⟨⟨by omega, by rw [Tr.cnt, hcnt]; omega, by rw [Tr.cnt, Tr.cnt, hcnt, Tr.cnts_append, Tr.cnts]; omega⟩, fun nm0 up b => ?_⟩
        have hmid := cutL_mid ⟨k, n, tx, nm0, up⟩ (Tr.flats A (Tr.nmOf k nm) 0 b (b + 1)) (y.flat (Tr.nmOf k nm i) (b : Nat) (b + 1 + Tr.cnts A)) (Tr.flats B (Tr.nmOf k nm) (i + 1) b (b + 1 + Tr.cnts A + y.cnt)) o' s' b (by rw [l2]; omega)
        rw [l1] at hmid
        rw [hflat, hmid, Tr.flat, Tr.flats_append, Tr.flats, hAl, Nat.zero_add, h4]
        unfold cutL
        rw [List.append_assoc]
        congr 4
        · congr 2
          omega
        · have := flats_down' B (Tr.nmOf k nm) (Tr.nmOf k nm) (i + 1) (i + 1) b (b + 1 + Tr.cnts A + y'.cnt) (b + (1 + Tr.cnts A + o') + s') s' (by omega) (by omega) (fun _ _ => rfl)
          rw [this]
          congr 2
          omega

/-- Where a part stands among the nodes. -/
theorem kid_off {N : Nat → Nd} {n k : Nat} (hg : GoodV N n) (hk : k < n) {c : Nat} (hc : c ∈ kidsTo N k n) : Tr.cnts ((kidsTo N k c).map (tree N n)) = c - (k + 1) ∧ k + 1 ≤ c := by
  obtain ⟨e, he⟩ := end_of (N := N) hk
  have hC := parts_ind (good_pre hg) hk (fun q => k + 1 ≤ q ∧ Tr.cnts ((kidsTo N k q).map (tree N n)) = q - (k + 1) ∧ ∀ c ∈ kidsTo N k q, Tr.cnts ((kidsTo N k c).map (tree N n)) = c - (k + 1) ∧ k + 1 ≤ c)
    (by
      have hz : ∀ j, j ≤ k + 1 → kidsTo N k j = [] := by
        intro j
        induction j with
        | zero => intro _; rfl
        | succ j ihj => intro hj; rw [kidsTo, if_neg (by omega), ihj (by omega)]
      rw [hz _ (Nat.le_refl _)]
      exact ⟨Nat.le_refl _, by simp [Tr.cnts], fun c hc => by simp at hc⟩)
    (by
      intro q e' hb hq hu he' hkid ⟨c1, c2, c3⟩
      have he1 := he'.1
      have hcq : (tree N n q).cnt = e' - q := by
        have := congrArg List.length (flat_tree (good_pre hg) (good_noNames hg) (n - q) q rfl hq e' he' ByteArray.empty 0 0)
        rw [Tr.flat_length, List.length_cons, seg_len] at this
        omega
      refine ⟨by omega, ?_, fun c hc => ?_⟩
      · rw [hkid, List.map_append, List.map_cons, List.map_nil, Tr.cnts_append, c2, Tr.cnts, Tr.cnts, hcq]
        omega
      · rw [hkid] at hc
        rcases List.mem_append.1 hc with hc | hc
        · exact c3 c hc
        · simp at hc; subst hc; exact ⟨c2, c1⟩)
    e he
  rw [hC.1] at hc
  exact hC.2.2.2 c hc
theorem take_kid {N : Nat → Nd} {n k i c : Nat} (h : (kidsTo N k n)[i]? = some c) : (kidsTo N k n).take i = kidsTo N k c := by
  have hm := kidsTo_mem (List.mem_of_getElem? h)
  obtain ⟨t, ht⟩ := kidsTo_prefix N k (c + 1) (n - (c + 1))
  rw [show c + 1 + (n - (c + 1)) = n by omega, kidsTo, if_pos ⟨hm.1, hm.2.2⟩] at ht
  have hs : ∀ j, (kidsTo N k j).Pairwise (· < ·) := by
    intro j
    induction j with
    | zero => exact List.Pairwise.nil
    | succ j ih =>
      rw [kidsTo]
      split
      · rw [List.pairwise_append]
        refine ⟨ih, by simp, fun a ha b hb => ?_⟩
        simp at hb; subst hb
        exact (kidsTo_mem ha).2.1
      · exact ih
  have hq : (kidsTo N k n)[(kidsTo N k c).length]? = some c := by rw [ht, List.append_assoc, List.getElem?_append_right (Nat.le_refl _)]; simp
  have hil := (List.getElem?_eq_some_iff.1 h)
  have hql := (List.getElem?_eq_some_iff.1 hq)
  obtain ⟨hil, hie⟩ := hil
  obtain ⟨hql, hqe⟩ := hql
  have hpw := List.pairwise_iff_getElem.1 (hs n)
  have : i = (kidsTo N k c).length := by
    rcases Nat.lt_trichotomy i (kidsTo N k c).length with h | h | h
    · have := hpw i _ hil hql h; omega
    · exact h
    · have := hpw _ i hql hil h; omega
  rw [this, ht, List.append_assoc, List.take_left]

theorem pos_go {N : Nat → Nd} {n : Nat} (hg : GoodV N n) : ∀ (l : List ByteArray) (q : Nat), q < n → (goN N n q l = none → posT l (tree N n q) = none) ∧ ∀ p e, goN N n q l = some p → IsEnd N n p e → q ≤ p ∧ posT l (tree N n q) = some (p - q, e - p) := by
  intro l
  induction l with
  | nil =>
    intro q hq
    refine ⟨fun h => by simp [goN] at h, fun p e h he => ?_⟩
    rw [goN] at h
    obtain rfl := Option.some.inj h
    refine ⟨Nat.le_refl _, ?_⟩
    have := congrArg List.length (flat_tree (good_pre hg) (good_noNames hg) (n - q) q rfl hq e he ByteArray.empty 0 0)
    rw [Tr.flat_length, List.length_cons, seg_len] at this
    have he1 := he.1
    rw [posT, this]
    congr 2
    · omega
    · omega
  | cons x r ih =>
    intro q hq
    rw [goN, posT, tree_eq hq]
    dsimp only [Tr.kind, Tr.names, Tr.kids]
    rw [find_at hg, List.length_map]
    cases ha : atI (N q).kind (kidNames N q (kidsTo N q n)) x (kidsTo N q n).length with
    | none => exact ⟨fun _ => rfl, fun p e h => by simp at h⟩
    | some i =>
      have hi := atI_lt ha
      have hc : (kidsTo N q n)[i]? = some (kidsTo N q n)[i] := List.getElem?_eq_getElem hi
      obtain ⟨c, hcc⟩ : ∃ c, c = (kidsTo N q n)[i] := ⟨_, rfl⟩
      rw [← hcc] at hc
      have hm := kidsTo_mem (List.mem_of_getElem? hc)
      have hoff := kid_off hg hq (List.mem_of_getElem? hc)
      simp only [Option.bind_some]
      rw [hc, List.getElem?_map, hc]
      simp only [Option.bind_some, Option.map_some]
      obtain ⟨ih1, ih2⟩ := ih c hm.2.1
      refine ⟨fun h => by rw [ih1 h]; rfl, fun p e h he => ?_⟩
      obtain ⟨h1, h2⟩ := ih2 p e h he
      refine ⟨by omega, ?_⟩
      rw [h2, ← List.map_take, take_kid hc, hoff.1]
      simp only [Option.map_some]
      congr 2
      omega

/-- What the program leaves: the nodes ahead, and those behind, moved. -/
def cutN (N : Nat → Nd) (n p e : Nat) : List Nd := cutL ((List.range n).map N) p (e - p) 0
theorem rem_go {N : Nat → Nd} {n : Nat} (hg : GoodV N n) (l : List ByteArray) (hl : l ≠ []) : (goN N n 0 l = none → remT l (tree N n 0) = none) ∧ ∀ p e, goN N n 0 l = some p → IsEnd N n p e → ∃ t', remT l (tree N n 0) = some t' ∧ t'.flat ByteArray.empty (-1) 0 = cutN N n p e ∧ 0 < p ∧ t'.cnt + (e - p) = n := by
  obtain ⟨h1, h2⟩ := pos_go hg l 0 hg.1.1
  have hs := rem_some hl (tree N n 0)
  refine ⟨fun h => ?_, fun p e h he => ?_⟩
  · rw [h1 h] at hs
    cases hr : remT l (tree N n 0) with
    | none => rfl
    | some t' => rw [hr] at hs; simp at hs
  · obtain ⟨_, h3⟩ := h2 p e h he
    rw [h3] at hs
    cases hr : remT l (tree N n 0) with
    | none => rw [hr] at hs; simp at hs
    | some t' =>
      obtain ⟨⟨a1, a2, a3⟩, h4⟩ := rem_flat l (tree N n 0) t' _ _ hl hr h3
      rw [Nat.sub_zero] at h4 a1
      refine ⟨t', rfl, ?_, a1, by rw [← good_cnt hg]; exact a3⟩
      rw [h4, good_flat hg]
      rfl

end Go.Proofs.YtadlflgflnlhjaaGreatDoor
namespace Go.Proofs.YtadlflgflnlhjaaGreatDoor
open Go.RowKit
set_option linter.unusedVariables false

def mvU (e : Nat) (d : Int) (u : Int) : Int := if (e : Int) ≤ u then u + d else u
theorem mvN_up (e : Nat) (d : Int) (x : Nd) : mvN e d x = { x with up := mvU e d x.up } := by
  unfold mvN mvU
  split <;> rfl
theorem flats_mv (l : List Tr) (ih : ∀ t ∈ l, ∀ nm (up up' : Int) (b b' e : Nat) (d : Int), mvU e d up' = up → (b' : Int) = b + d → e ≤ b → t.flat nm up b' = (t.flat nm up' b).map (mvN e d)) : ∀ (f g : Nat → ByteArray) (i j up up' b b' e : Nat) (d : Int), mvU e d (up' : Int) = (up : Int) → (b' : Int) = b + d → e ≤ b → (∀ q, q < l.length → g (i + q) = f (j + q)) → Tr.flats l g i up b' = (Tr.flats l f j up' b).map (mvN e d) := by
  induction l with
  | nil => intros; rfl
  | cons a l ih2 =>
    intro f g i j up up' b b' e d hu hb he hg
    rw [Tr.flats, Tr.flats, List.map_append, ih a (by simp) (g i) (up : Nat) (up' : Nat) b b' e d hu hb he]
    have h0 := hg 0 (by simp)
    simp only [Nat.add_zero] at h0
    rw [h0, ih2 (fun t ht => ih t (by simp [ht])) f g (i + 1) (j + 1) up up' (b + a.cnt) (b' + a.cnt) e d hu (by omega) (by omega) (fun q hq => by
      have := hg (q + 1) (by simp; omega)
      rw [show i + 1 + q = i + (q + 1) by omega, show j + 1 + q = j + (q + 1) by omega, this])]
theorem flat_mv (t : Tr) : ∀ nm (up up' : Int) (b b' e : Nat) (d : Int), mvU e d up' = up → (b' : Int) = b + d → e ≤ b → t.flat nm up b' = (t.flat nm up' b).map (mvN e d) := by
  refine Tr.ind (P := fun t => ∀ nm (up up' : Int) (b b' e : Nat) (d : Int), mvU e d up' = up → (b' : Int) = b + d → e ≤ b → t.flat nm up b' = (t.flat nm up' b).map (mvN e d)) (fun k n t nm ks ih => ?_) t
  intro name up up' b b' e d hu hb he
  rw [Tr.flat, Tr.flat, List.map_cons]
  congr 1
  · rw [mvN_up, hu]
  · exact flats_mv ks ih _ _ 0 0 b' b (b + 1) (b' + 1) e d (by unfold mvU; rw [if_pos (by omega)]; omega) (by omega) (by omega) (fun _ _ => rfl)
theorem flats_mv' (l : List Tr) (f g : Nat → ByteArray) (i j up b b' e : Nat) (d : Int) (hu : up < e) (hb : (b' : Int) = b + d) (he : e ≤ b) (hg : ∀ q, q < l.length → g (i + q) = f (j + q)) : Tr.flats l g i up b' = (Tr.flats l f j up b).map (mvN e d) :=
  flats_mv l (fun t _ => flat_mv t) f g i j up up b b' e d (by unfold mvU; rw [if_neg (by omega)]) hb he hg

/-- May a part of that name be put here? -/
def newOK (k : Int) (m : Nat) (y : ByteArray) : Bool := decide (k = 7) || (decide (k = 6) && ((strL (Lib.decDigits m)).toList == y.toList))
/-- The name of a part. -/
def nm7 (k : Int) (y : ByteArray) : ByteArray := if k = 7 then y else ByteArray.empty
def setT (x : Tr) : List ByteArray → Tr → Option Tr
  | [], _ => some x
  | y :: r, t => match atI t.kind t.names y t.kids.length with
    | none => bif r.isEmpty && newOK t.kind t.kids.length y then some (putK t y x) else none
    | some i => (t.kids[i]?).bind fun z => (setT x r z).map (withK t i)
/-- Where the part begins in the row, how many nodes it replaces, where the one is that it is a part of, and its name. -/
def plcT : List ByteArray → Tr → Option (Nat × Nat × Nat × ByteArray)
  | [], _ => none
  | y :: r, t => match atI t.kind t.names y t.kids.length with
    | none => bif r.isEmpty && newOK t.kind t.kids.length y then some (1 + Tr.cnts (t.kids.take (putAt t y)), 0, 0, nm7 t.kind y) else none
    | some i => (t.kids[i]?).bind fun z => if r.isEmpty then some (1 + Tr.cnts (t.kids.take i), z.cnt, 0, nm7 t.kind y) else (plcT r z).map fun p => (1 + Tr.cnts (t.kids.take i) + p.1, p.2.1, 1 + Tr.cnts (t.kids.take i) + p.2.2.1, p.2.2.2)

theorem set_some {x : Tr} : ∀ {l : List ByteArray} (t : Tr), l ≠ [] → (setT x l t).isSome = (plcT l t).isSome := by
  intro l
  induction l with
  | nil => intro t h; exact absurd rfl h
  | cons y r ih =>
    intro t _
    rw [setT, plcT]
    cases ha : atI t.kind t.names y t.kids.length with
    | none =>
      dsimp only
      cases (r.isEmpty && newOK t.kind t.kids.length y) <;> rfl
    | some i =>
      have hi := atI_lt ha
      dsimp only
      rw [List.getElem?_eq_getElem hi]
      simp only [Option.bind_some]
      rw [Option.isSome_map]
      cases r with
      | nil => rfl
      | cons z r =>
        simp only [List.isEmpty_cons, Bool.false_eq_true, if_false]
        rw [Option.isSome_map]
        exact ih _ (by simp)

/-- What is left of a row whose s nodes from o on are replaced by others, the first of the row being number b. -/
def setL (L : List Nd) (o s b : Nat) (P : List Nd) : List Nd := L.take o ++ P ++ (L.drop (o + s)).map (mvN (b + o + s) ((P.length : Int) - s))
theorem setL_mid (h : Nd) (A M R P : List Nd) (o' s b : Nat) (ho : o' + s ≤ M.length) : setL (h :: (A ++ (M ++ R))) (1 + A.length + o') s b P = h :: (A ++ (M.take o' ++ P ++ ((M.drop (o' + s)).map (mvN (b + (1 + A.length + o') + s) ((P.length : Int) - s)) ++ R.map (mvN (b + (1 + A.length + o') + s) ((P.length : Int) - s))))) := by
  unfold setL
  have e1 : (h :: (A ++ (M ++ R))).take (1 + A.length + o') = h :: (A ++ M.take o') := by
    rw [show 1 + A.length + o' = (A.length + o') + 1 by omega, List.take_succ_cons, List.take_length_add_append, List.take_append_of_le_length (by omega)]
  have e2 : (h :: (A ++ (M ++ R))).drop (1 + A.length + o' + s) = M.drop (o' + s) ++ R := by
    rw [show 1 + A.length + o' + s = (A.length + (o' + s)) + 1 by omega, List.drop_succ_cons, List.drop_length_add_append, List.drop_append_of_le_length (by omega)]
  rw [e1, e2, List.map_append]
  simp

theorem bytes_eq {a b : ByteArray} (h : (a.toList == b.toList) = true) : a = b := by
  have h1 : a.toList = b.toList := by simpa using h
  rw [ByteArray.toList_eq, ByteArray.toList_eq] at h1
  cases a; cases b
  simp at h1
  rw [h1]
theorem at_name {k : Int} {nm : List ByteArray} {y : ByteArray} {m i : Nat} (h : atI k nm y m = some i) (h7 : k = 7) : nm.getD i ByteArray.empty = y := by
  have := List.find?_some h
  subst h7
  unfold hitI at this
  simp at this
  exact bytes_eq (by simpa using this)

theorem nmOf_put (k : Int) (nm : List ByteArray) (y : ByteArray) (p : Nat) (hp : p ≤ nm.length ∨ k ≠ 7) (q : Nat) : Tr.nmOf k (if k = 7 then nm.take p ++ y :: nm.drop p else []) q = if q < p then Tr.nmOf k nm q else if q = p then (nm7 k y) else Tr.nmOf k nm (q - 1) := by
  unfold Tr.nmOf nm7
  by_cases h7 : k = 7
  · have hp' : p ≤ nm.length := by
      rcases hp with h | h
      · exact h
      · exact absurd h7 h
    simp only [h7, if_true]
    rcases Nat.lt_trichotomy q p with h | h | h
    · rw [if_pos h, List.getD_eq_getElem?_getD, List.getElem?_append_left (by rw [List.length_take]; omega), List.getElem?_take, if_pos h, List.getD_eq_getElem?_getD]
    · rw [if_neg (by omega), if_pos h, List.getD_eq_getElem?_getD, List.getElem?_append_right (by rw [List.length_take]; omega), List.length_take, Nat.min_eq_left hp', h, Nat.sub_self]
      rfl
    · rw [if_neg (by omega), if_neg (by omega), List.getD_eq_getElem?_getD, List.getElem?_append_right (by rw [List.length_take]; omega), List.length_take, Nat.min_eq_left hp']
      obtain ⟨d, rfl⟩ : ∃ d, q = p + 1 + d := ⟨q - (p + 1), by omega⟩
      rw [show p + 1 + d - p = d + 1 by omega, List.getElem?_cons_succ, List.getElem?_drop, List.getD_eq_getElem?_getD, show p + 1 + d - 1 = p + d by omega]
  · simp [h7]

theorem set_flat (x : Tr) : ∀ (l : List ByteArray) (t t' : Tr) (o s a : Nat) (nm' : ByteArray), l ≠ [] → t.named → (∀ z, getT t l.dropLast = some z → (z.kind = 6 ∨ z.kind = 7) → z.num = 0 ∧ z.text = ⟨#[]⟩) → setT x l t = some t' → plcT l t = some (o, s, a, nm') →
    (1 ≤ o ∧ o + s ≤ t.cnt ∧ a < o ∧ t'.cnt + s = t.cnt + x.cnt) ∧ ∀ nm (up : Int) b, t'.flat nm up b = setL (t.flat nm up b) o s b (x.flat nm' ((b + a : Nat) : Int) (b + o)) := by
  intro l
  induction l with
  | nil => intro t t' o s a nm' h; exact absurd rfl h
  | cons y r ih =>
    intro t t' o s a nm' _ hnd hbare hs hp
    obtain ⟨k, n, tx, nm, ks⟩ := t
    rw [setT] at hs
    rw [plcT] at hp
    dsimp only [Tr.kind, Tr.names, Tr.kids] at hs hp
    rw [Tr.named] at hnd
    cases ha : atI k nm y ks.length with
    | none =>
      rw [ha] at hs hp
      dsimp only at hs hp
      cases hc : (r.isEmpty && newOK k ks.length y) with
      | true =>
        rw [hc] at hs hp
        dsimp only [cond] at hs hp
        simp only [Bool.and_eq_true] at hc
        obtain ⟨hr, hok⟩ := hc
        obtain rfl : r = [] := by simpa using hr
        have hk67 : k = 6 ∨ k = 7 := by
          unfold newOK at hok
          simp at hok
          rcases hok with h | h
          · exact .inr h
          · exact .inl h.1
        obtain ⟨hn0, ht0⟩ := hbare (.mk k n tx nm ks) (by simp [getT]) hk67
        dsimp only [Tr.num, Tr.text] at hn0 ht0
        subst hn0 ht0
        obtain ⟨p, hpp⟩ : ∃ p, p = putAt (.mk k 0 ⟨#[]⟩ nm ks) y := ⟨_, rfl⟩
        rw [← hpp] at hp
        have hple : p ≤ ks.length ∧ (p ≤ nm.length ∨ k ≠ 7) := by
          rw [hpp, putAt]
          by_cases h7 : k = 7
          · rw [if_pos h7]
            have := putPos_le nm y
            exact ⟨by rw [← hnd.1 h7]; exact this, .inl this⟩
          · rw [if_neg h7]
            exact ⟨Nat.le_refl _, .inr h7⟩
        obtain rfl := Option.some.inj hs
        simp only [Option.some.injEq, Prod.mk.injEq] at hp
        obtain ⟨rfl, rfl, rfl, rfl⟩ := hp
        obtain ⟨A, hA⟩ : ∃ A, A = ks.take p := ⟨_, rfl⟩
        obtain ⟨B, hB⟩ : ∃ B, B = ks.drop p := ⟨_, rfl⟩
        have hAl : A.length = p := by rw [hA, List.length_take]; omega
        have hks : ks = A ++ B := by rw [hA, hB, List.take_append_drop]
        have hput : putK (.mk k 0 ⟨#[]⟩ nm ks) y x = .mk k 0 ⟨#[]⟩ (if k = 7 then nm.take p ++ y :: nm.drop p else []) (A ++ x :: B) := by rw [putK, ← hpp, ← hA, ← hB]
        rw [hput, ← hA]
        have hcnt : Tr.cnts ks = Tr.cnts A + Tr.cnts B := by rw [hks, Tr.cnts_append]
        refine ⟨⟨by omega, by rw [Tr.cnt, hcnt]; omega, by omega, by rw [Tr.cnt, Tr.cnt, hcnt, Tr.cnts_append, Tr.cnts]; omega⟩, fun nm0 up b => ?_⟩
        have l1 : (Tr.flats A (Tr.nmOf k nm) 0 b (b + 1)).length = Tr.cnts A := Tr.flats_len _ _ _ _ _
        have hmid := setL_mid ⟨k, 0, ⟨#[]⟩, nm0, up⟩ (Tr.flats A (Tr.nmOf k nm) 0 b (b + 1)) [] (Tr.flats B (Tr.nmOf k nm) p b (b + 1 + Tr.cnts A)) (x.flat (nm7 k y) ((b + 0 : Nat) : Int) (b + (1 + Tr.cnts A))) 0 0 b (by simp)
        rw [l1] at hmid
        simp only [Nat.add_zero, List.nil_append, List.take_nil, List.drop_nil, List.map_nil] at hmid
        rw [Tr.flat, Tr.flat, hks, Tr.flats_append, Tr.flats_append, Tr.flats, hAl, Nat.zero_add]
        have hfl : (x.flat (nm7 k y) ((b + 0 : Nat) : Int) (b + (1 + Tr.cnts A))).length = x.cnt := Tr.flat_length _ _ _ _
        simp only [Nat.add_zero] at hfl ⊢
        rw [hmid, hfl]
        congr 2
        · refine flats_names A _ _ 0 b (b + 1) (fun q hq => ?_)
          rw [nmOf_put k nm y p hple.2, if_pos (by omega)]
        · rw [nmOf_put k nm y p hple.2, if_neg (by omega), if_pos rfl]
          congr 1
          · congr 1
            omega
          · exact flats_mv' B _ _ (p + 1) p b (b + 1 + Tr.cnts A) (b + 1 + Tr.cnts A + x.cnt) (b + (1 + Tr.cnts A)) _ (by omega) (by simp) (by omega) (fun q hq => by rw [nmOf_put k nm y p hple.2, if_neg (by omega), if_neg (by omega)]; congr 1; omega)
      | false =>
        rw [hc] at hs
        simp at hs
    | some i =>
      have hi := atI_lt ha
      rw [ha] at hs hp
      dsimp only at hs hp
      rw [List.getElem?_eq_getElem hi] at hs hp
      obtain ⟨z, hz⟩ : ∃ z, z = ks[i] := ⟨_, rfl⟩
      rw [← hz] at hs hp
      simp only [Option.bind_some] at hs hp
      obtain ⟨A, hA⟩ : ∃ A, A = ks.take i := ⟨_, rfl⟩
      obtain ⟨B, hB⟩ : ∃ B, B = ks.drop (i + 1) := ⟨_, rfl⟩
      have hAl : A.length = i := by rw [hA, List.length_take]; omega
      have hks : ks = A ++ z :: B := by rw [hA, hB, hz, List.getElem_cons_drop, List.take_append_drop]
      rw [← hA] at hp
      have hcnt : Tr.cnts ks = Tr.cnts A + (z.cnt + Tr.cnts B) := by rw [hks, Tr.cnts_append, Tr.cnts]
      have hflat : ∀ nm0 (up : Int) b, (Tr.mk k n tx nm ks).flat nm0 up b = ⟨k, n, tx, nm0, up⟩ :: (Tr.flats A (Tr.nmOf k nm) 0 b (b + 1) ++ (z.flat (Tr.nmOf k nm i) (b : Nat) (b + 1 + Tr.cnts A) ++ Tr.flats B (Tr.nmOf k nm) (i + 1) b (b + 1 + Tr.cnts A + z.cnt))) := by
        intro nm0 up b
        rw [Tr.flat, hks, Tr.flats_append, Tr.flats, hAl, Nat.zero_add]
      have l1 : ∀ b, (Tr.flats A (Tr.nmOf k nm) 0 b (b + 1)).length = Tr.cnts A := fun b => Tr.flats_len _ _ _ _ _
      have l2 : ∀ b, (z.flat (Tr.nmOf k nm i) (b : Nat) (b + 1 + Tr.cnts A)).length = z.cnt := fun b => Tr.flat_length _ _ _ _
      obtain ⟨z', hz', ht'⟩ := Option.map_eq_some_iff.1 hs
      have hc : withK (.mk k n tx nm ks) i z' = .mk k n tx nm (A ++ z' :: B) := by
        rw [withK]
        congr 1
        rw [hks, List.set_append_right _ _ (by omega), hAl, Nat.sub_self, List.set_cons_zero]
      rw [← ht', hc]
      have hznd : z.named := Tr.nameds_mem.1 hnd.2 z (by rw [hks]; simp)
      cases r with
      | nil =>
        simp only [List.isEmpty_nil, if_true, Option.some.injEq, Prod.mk.injEq] at hp
        obtain ⟨rfl, rfl, rfl, rfl⟩ := hp
        have hzx : z' = x := by rw [setT] at hz'; exact (Option.some.inj hz').symm
        rw [hzx]
        refine ⟨⟨by omega, by rw [Tr.cnt, hcnt]; omega, by omega, by rw [Tr.cnt, Tr.cnt, hcnt, Tr.cnts_append, Tr.cnts]; omega⟩, fun nm0 up b => ?_⟩
        have hmid := setL_mid ⟨k, n, tx, nm0, up⟩ (Tr.flats A (Tr.nmOf k nm) 0 b (b + 1)) (z.flat (Tr.nmOf k nm i) (b : Nat) (b + 1 + Tr.cnts A)) (Tr.flats B (Tr.nmOf k nm) (i + 1) b (b + 1 + Tr.cnts A + z.cnt)) (x.flat (nm7 k y) ((b + 0 : Nat) : Int) (b + (1 + Tr.cnts A))) 0 z.cnt b (by rw [l2]; omega)
        rw [l1] at hmid
        have hnm : Tr.nmOf k nm i = nm7 k y := by
          unfold Tr.nmOf nm7
          by_cases h7 : k = 7
          · rw [if_pos h7, if_pos h7, at_name ha h7]
          · rw [if_neg h7, if_neg h7]
        have hfl : (x.flat (nm7 k y) ((b + 0 : Nat) : Int) (b + (1 + Tr.cnts A))).length = x.cnt := Tr.flat_length _ _ _ _
        simp only [Nat.add_zero] at hmid hfl ⊢
        rw [hflat, hmid, hfl, Tr.flat, Tr.flats_append, Tr.flats, hAl, Nat.zero_add, hnm, List.take_zero, Nat.zero_add, List.drop_of_length_le (by rw [← hnm, l2]; omega), List.map_nil, List.nil_append, List.nil_append]
        congr 3
        · congr 1
          omega
        · exact flats_mv' B _ _ (i + 1) (i + 1) b (b + 1 + Tr.cnts A + z.cnt) (b + 1 + Tr.cnts A + x.cnt) (b + (1 + Tr.cnts A) + z.cnt) _ (by omega) (by omega) (by omega) (fun q hq => rfl)
      | cons y2 r =>
        simp only [List.isEmpty_cons, Bool.false_eq_true, if_false] at hp
        obtain ⟨⟨o', s', a', nm2⟩, hpz, hpe⟩ := Option.map_eq_some_iff.1 hp
        simp only [Prod.mk.injEq] at hpe
        obtain ⟨rfl, rfl, rfl, rfl⟩ := hpe
        obtain ⟨⟨h1, h2, h2', h3⟩, h4⟩ := ih z z' o' s' a' nm2 (by simp) hznd (fun w hw => hbare w (by
          rw [List.dropLast_cons_cons, getT]
          show (atI k nm y ks.length).bind _ = _
          rw [ha]
          show (ks[i]?).bind _ = _
          rw [List.getElem?_eq_getElem hi, ← hz]
          exact hw)) hz' hpz
        refine ⟨⟨by omega, by rw [Tr.cnt, hcnt]; omega, by omega, by rw [Tr.cnt, Tr.cnt, hcnt, Tr.cnts_append, Tr.cnts]; omega⟩, fun nm0 up b => ?_⟩
        have hmid := setL_mid ⟨k, n, tx, nm0, up⟩ (Tr.flats A (Tr.nmOf k nm) 0 b (b + 1)) (z.flat (Tr.nmOf k nm i) (b : Nat) (b + 1 + Tr.cnts A)) (Tr.flats B (Tr.nmOf k nm) (i + 1) b (b + 1 + Tr.cnts A + z.cnt)) (x.flat nm2 ((b + (1 + Tr.cnts A + a') : Nat) : Int) (b + (1 + Tr.cnts A + o'))) o' s' b (by rw [l2]; omega)
        rw [l1] at hmid
        have hfl : (x.flat nm2 ((b + (1 + Tr.cnts A + a') : Nat) : Int) (b + (1 + Tr.cnts A + o'))).length = x.cnt := Tr.flat_length _ _ _ _
        have hfl2 : ∀ u v, (x.flat nm2 u v).length = x.cnt := fun u v => Tr.flat_length _ _ _ _
        rw [hflat, hmid, Tr.flat, Tr.flats_append, Tr.flats, hAl, Nat.zero_add, h4]
        unfold setL
        rw [hfl, hfl2, show b + 1 + Tr.cnts A + a' = b + (1 + Tr.cnts A + a') by omega, show b + 1 + Tr.cnts A + o' = b + (1 + Tr.cnts A + o') by omega, List.append_assoc]
        congr 4
        · have := flats_mv' B (Tr.nmOf k nm) (Tr.nmOf k nm) (i + 1) (i + 1) b (b + 1 + Tr.cnts A + z.cnt) (b + 1 + Tr.cnts A + z'.cnt) (b + (1 + Tr.cnts A + o') + s') ((x.cnt : Int) - s') (by omega) (by omega) (by omega) (fun _ _ => rfl)
          rw [this]

end Go.Proofs.YtadlflgflnlhjaaGreatDoor
namespace Go.Proofs.YtadlflgflnlhjaaGreatDoor
open Go.RowKit
set_option linter.unusedVariables false

theorem less_total : ∀ a b : List UInt8, Op.bytesLess a b = !(Op.bytesLess b a || b == a)
  | [], [] => by simp [Op.bytesLess]
  | [], _ :: _ => by simp [Op.bytesLess]
  | _ :: _, [] => by simp [Op.bytesLess]
  | x :: a, y :: b => by
    have ih := less_total a b
    unfold Op.bytesLess
    rcases Nat.lt_trichotomy x.toNat y.toNat with h | h | h
    · have h1 : x < y := h
      have h2 : ¬ y < x := fun h' => by have : y.toNat < x.toNat := h'; omega
      have h3 : ¬ y = x := fun e => by rw [e] at h; omega
      simp [h1, h2, h3]
    · have e : x = y := UInt8.toNat_inj.1 h
      subst e
      simp [ih]
    · have h1 : y < x := h
      have h2 : ¬ x < y := fun h' => by have : x.toNat < y.toNat := h'; omega
      have h4 : ¬ x = y := fun e => by rw [e] at h; omega
      simp [h1, h2, h4]
theorem leB_not (a b : ByteArray) : leB a b = !nameLess b a := by
  unfold leB nameLess
  rw [less_total b.toList a.toList]
  simp

/-- The numeral of how many parts there are leads behind them. -/
def numIs (N : Nat → Nd) (n ar : Nat) (y : ByteArray) : Bool := (strL (Lib.decDigits (kidsTo N ar n).length)).toList == y.toList
/-- Where a new part is put. -/
def NewAt (N : Nat → Nd) (n ar : Nat) (y : ByteArray) (p : Nat) : Prop :=
  ((N ar).kind = 6 ∧ numIs N n ar y = true ∧ IsEnd N n ar p) ∨ ((N ar).kind = 7 ∧ ((∃ i, (kidsTo N ar n)[i]? = some p ∧ nameLess y (N p).name = true ∧ ∀ (j c : Nat), j < i → (kidsTo N ar n)[j]? = some c → nameLess y (N c).name = false) ∨ ((∀ c ∈ kidsTo N ar n, nameLess y (N c).name = false) ∧ IsEnd N n ar p)))
def PlaceIs (N : Nat → Nd) (n ar : Nat) (y : ByteArray) (p e : Nat) : Prop := (findP (partsTo N ar n) y = some p ∧ IsEnd N n p e) ∨ (findP (partsTo N ar n) y = none ∧ e = p ∧ NewAt N n ar y p)
def NoPlace (N : Nat → Nd) (n ar : Nat) (y : ByteArray) : Prop := findP (partsTo N ar n) y = none ∧ (N ar).kind ≠ 7 ∧ ((N ar).kind ≠ 6 ∨ numIs N n ar y = false)

theorem tree_cnt {N : Nat → Nd} {n q e : Nat} (hg : GoodV N n) (hq : q < n) (he : IsEnd N n q e) : (tree N n q).cnt = e - q := by
  have := congrArg List.length (flat_tree (good_pre hg) (good_noNames hg) (n - q) q rfl hq e he ByteArray.empty 0 0)
  rw [Tr.flat_length, List.length_cons, seg_len] at this
  have := he.1
  omega
theorem kids_cnts {N : Nat → Nd} {n q e : Nat} (hg : GoodV N n) (hq : q < n) (he : IsEnd N n q e) : 1 + Tr.cnts ((kidsTo N q n).map (tree N n)) = e - q := by
  have := tree_cnt hg hq he
  rw [tree_eq hq, Tr.cnt] at this
  omega
theorem take_off {N : Nat → Nd} {n q i c : Nat} (hg : GoodV N n) (hq : q < n) (h : (kidsTo N q n)[i]? = some c) : 1 + Tr.cnts (((kidsTo N q n).map (tree N n)).take i) = c - q ∧ q < c := by
  have hoff := kid_off hg hq (List.mem_of_getElem? h)
  rw [← List.map_take, take_kid h, hoff.1]
  omega

theorem plc_go {N : Nat → Nd} {n : Nat} (hg : GoodV N n) : ∀ (l : List ByteArray) (q : Nat) (y : ByteArray), q < n → l.getLast? = some y →
    (goN N n q l.dropLast = none → plcT l (tree N n q) = none) ∧ ∀ ar, goN N n q l.dropLast = some ar → (NoPlace N n ar y → plcT l (tree N n q) = none) ∧ ∀ p e, PlaceIs N n ar y p e → q ≤ ar ∧ ar < p ∧ p ≤ e ∧ plcT l (tree N n q) = some (p - q, e - p, ar - q, nm7 (N ar).kind y) := by
  intro l
  induction l with
  | nil => intro q y _ h; simp at h
  | cons x r ih =>
    intro q y hq hy
    rw [plcT, tree_eq hq]
    dsimp only [Tr.kind, Tr.names, Tr.kids]
    rw [List.length_map]
    have hfa := find_at (k := q) hg x
    cases r with
    | nil =>
      obtain rfl : x = y := by simpa using hy
      refine ⟨fun h => by simp [goN] at h, fun ar har => ?_⟩
      obtain rfl : q = ar := by simpa [goN] using har
      cases ha : atI (N q).kind (kidNames N q (kidsTo N q n)) x (kidsTo N q n).length with
      | none =>
        rw [ha] at hfa
        dsimp only
        refine ⟨fun hno => ?_, fun p e hpl => ?_⟩
        · have : newOK (N q).kind (kidsTo N q n).length x = false := by
            unfold newOK
            rw [decide_eq_false hno.2.1]
            rcases hno.2.2 with h | h
            · rw [decide_eq_false h]; rfl
            · unfold numIs at h
              rw [h]
              simp
          rw [this]
          rfl
        · rcases hpl with ⟨h, _⟩ | ⟨_, rfl, hnew⟩
          · rw [hfa] at h; simp at h
          · rcases hnew with ⟨h6, hnum, hend⟩ | ⟨h7, hnew⟩
            · have hok : newOK (N q).kind (kidsTo N q n).length x = true := by
                unfold newOK
                unfold numIs at hnum
                rw [hnum, h6]
                rfl
              have h1 := kids_cnts hg hq hend
              have h2 := hend.1
              rw [hok]
              refine ⟨Nat.le_refl _, h2, Nat.le_refl _, ?_⟩
              show some _ = some _
              rw [putAt, if_neg (by omega), List.take_of_length_le (Nat.le_refl _), h1, Nat.sub_self, Nat.sub_self]
            · have hok : newOK (N q).kind (kidsTo N q n).length x = true := by
                unfold newOK
                rw [h7]
                rfl
              have hkn : kidNames N q (kidsTo N q n) = (kidsTo N q n).map (fun c => (N c).name) := by unfold kidNames; rw [if_pos h7]
              rw [hok]
              show _ ∧ _ ∧ _ ∧ some _ = some _
              rw [putAt, if_pos h7, hkn]
              rcases hnew with ⟨i, hi, hl, hb⟩ | ⟨hall, hend⟩
              · have hpp : putPos ((kidsTo N q n).map fun c => (N c).name) x = i := by
                  refine putPos_at (fun j z hj hz => ?_) (by rw [List.length_map]; exact Nat.le_of_lt (List.getElem?_eq_some_iff.1 hi).1) (fun z hz => ?_)
                  · rw [List.getElem?_map, Option.map_eq_some_iff] at hz
                    obtain ⟨c, hc, rfl⟩ := hz
                    rw [leB_not, hb j c hj hc]
                    rfl
                  · rw [List.getElem?_map, hi] at hz
                    obtain rfl := Option.some.inj hz
                    rw [leB_not, hl]
                    rfl
                obtain ⟨h1, h2⟩ := take_off hg hq hi
                rw [hpp, h1, Nat.sub_self, Nat.sub_self]
                exact ⟨Nat.le_refl _, h2, Nat.le_refl _, rfl⟩
              · have hpp : putPos ((kidsTo N q n).map fun c => (N c).name) x = (kidsTo N q n).length := by
                  refine putPos_at (fun j z hj hz => ?_) (by rw [List.length_map]; exact Nat.le_refl _) (fun z hz => ?_)
                  · rw [List.getElem?_map, Option.map_eq_some_iff] at hz
                    obtain ⟨c, hc, rfl⟩ := hz
                    rw [leB_not, hall c (List.mem_of_getElem? hc)]
                    rfl
                  · rw [List.getElem?_eq_none (by simp)] at hz
                    simp at hz
                have h1 := kids_cnts hg hq hend
                have h2 := hend.1
                rw [hpp, List.take_of_length_le (by simp), h1, Nat.sub_self, Nat.sub_self]
                exact ⟨Nat.le_refl _, h2, Nat.le_refl _, rfl⟩
      | some i =>
        have hi := atI_lt ha
        have hc : (kidsTo N q n)[i]? = some (kidsTo N q n)[i] := List.getElem?_eq_getElem hi
        obtain ⟨c, hcc⟩ : ∃ c, c = (kidsTo N q n)[i] := ⟨_, rfl⟩
        rw [← hcc] at hc
        rw [ha] at hfa
        simp only [Option.bind_some] at hfa
        rw [hc] at hfa
        have hm := kidsTo_mem (List.mem_of_getElem? hc)
        dsimp only
        rw [List.getElem?_map, hc]
        simp only [Option.map_some, Option.bind_some, List.isEmpty_nil, if_true]
        refine ⟨fun hno => by rw [hno.1] at hfa; simp at hfa, fun p e hpl => ?_⟩
        rcases hpl with ⟨h, hend⟩ | ⟨h, _⟩
        · rw [hfa] at h
          obtain rfl := Option.some.inj h
          obtain ⟨h1, h2⟩ := take_off hg hq hc
          have h3 := tree_cnt hg hm.2.1 hend
          have h4 := hend.1
          rw [h1, h3, Nat.sub_self]
          exact ⟨Nat.le_refl _, h2, by omega, rfl⟩
        · rw [hfa] at h; simp at h
    | cons x2 r =>
      rw [List.dropLast_cons_cons, goN]
      have hy2 : (x2 :: r).getLast? = some y := by rw [List.getLast?_cons_cons] at hy; exact hy
      cases ha : atI (N q).kind (kidNames N q (kidsTo N q n)) x (kidsTo N q n).length with
      | none =>
        rw [ha] at hfa
        rw [hfa]
        exact ⟨fun _ => rfl, fun ar har => by simp at har⟩
      | some i =>
        have hi := atI_lt ha
        have hc : (kidsTo N q n)[i]? = some (kidsTo N q n)[i] := List.getElem?_eq_getElem hi
        obtain ⟨c, hcc⟩ : ∃ c, c = (kidsTo N q n)[i] := ⟨_, rfl⟩
        rw [← hcc] at hc
        rw [ha] at hfa
        simp only [Option.bind_some] at hfa
        rw [hc] at hfa
        have hm := kidsTo_mem (List.mem_of_getElem? hc)
        obtain ⟨h1, h2⟩ := take_off hg hq hc
        dsimp only
        rw [hfa, List.getElem?_map, hc]
        simp only [Option.map_some, Option.bind_some, List.isEmpty_cons, Bool.false_eq_true, if_false]
        obtain ⟨ih1, ih2⟩ := ih c y hm.2.1 hy2
        refine ⟨fun h => by rw [ih1 h]; rfl, fun ar har => ?_⟩
        obtain ⟨ih3, ih4⟩ := ih2 ar har
        refine ⟨fun h => by rw [ih3 h]; rfl, fun p e hpl => ?_⟩
        obtain ⟨a1, a2, a3, a4⟩ := ih4 p e hpl
        refine ⟨by omega, a2, a3, ?_⟩
        rw [a4, h1]
        simp only [Option.map_some]
        congr 2
        · omega
        · congr 2
          omega

end Go.Proofs.YtadlflgflnlhjaaGreatDoor
namespace Go.Proofs.YtadlflgflnlhjaaGreatDoor
open Go.RowKit
set_option linter.unusedVariables false

/-- The nodes of a whole value as those of a part that begins at p. -/
def partN (X : Nat → Nd) (p ar : Nat) (y : ByteArray) (i : Nat) : Nd := if i = 0 then { X 0 with name := y, up := (ar : Int) } else { X i with up := (X i).up + p }
def partL (X : Nat → Nd) (m p ar : Nat) (y : ByteArray) : List Nd := (List.range m).map (partN X p ar y)
theorem partL_len (X : Nat → Nd) (m p ar : Nat) (y : ByteArray) : (partL X m p ar y).length = m := by simp [partL]

theorem part_flat {X : Nat → Nd} {m : Nat} (hX : GoodV X m) (p ar : Nat) (y : ByteArray) : (tree X m 0).flat y ((ar : Nat) : Int) p = partL X m p ar y := by
  have h0 := hX.1.1
  have hpre := good_pre hX
  have hend : IsEnd X m 0 m := ⟨h0, Nat.le_refl _, fun i h1 h2 => (hpre.2 i h1 h2).1, fun h => by omega⟩
  rw [flat_tree hpre (good_noNames hX) (m - 0) 0 rfl h0 m hend]
  unfold partL
  obtain ⟨d, rfl⟩ : ∃ d, m = d + 1 := ⟨m - 1, by omega⟩
  rw [List.range_succ_eq_map, List.map_cons, List.map_map]
  congr 1
  unfold seg
  rw [show d + 1 - (0 + 1) = d by omega, Nat.zero_add, List.range'_eq_map_range, List.map_map]
  apply List.map_congr_left
  intro i _
  simp only [Function.comp, partN]
  rw [show Nat.succ i = 1 + i by omega, if_neg (by omega)]
  congr 1
  omega

theorem goN_lt' {N : Nat → Nd} {n : Nat} : ∀ (l : List ByteArray) (k p : Nat), k < n → goN N n k l = some p → p < n := by
  intro l
  induction l with
  | nil => intro k p hk h; simp [goN] at h; omega
  | cons nm r ih =>
    intro k p hk h
    rw [goN] at h
    obtain ⟨q, hq, h'⟩ := Option.bind_eq_some_iff.1 h
    exact ih q p (kidsTo_mem (findP_kid hq)).2.1 h'
theorem bare_of {x : Nd} (h : contentB x = true) (hk : x.kind = 6 ∨ x.kind = 7) : x.num = 0 ∧ x.text = ⟨#[]⟩ := by
  unfold contentB at h
  have h2 : (decide (x.num = 0) && noText x.text) = true := by
    rw [if_neg (by omega), if_neg (by omega), if_pos (by omega)] at h
    exact h
  simp only [Bool.and_eq_true, decide_eq_true_eq] at h2
  exact ⟨h2.1, text_empty h2.2⟩

/-- BY NODES AND BY TREES THE SAME IS SET. -/
theorem set_go {N X : Nat → Nd} {n m : Nat} (hg : GoodV N n) (hX : GoodV X m) (l : List ByteArray) (y : ByteArray) (hy : l.getLast? = some y) :
    (goN N n 0 l.dropLast = none → setT (tree X m 0) l (tree N n 0) = none) ∧ ∀ ar, goN N n 0 l.dropLast = some ar → (NoPlace N n ar y → setT (tree X m 0) l (tree N n 0) = none) ∧ ∀ p e, PlaceIs N n ar y p e → (ar < p ∧ p ≤ e ∧ e ≤ n) ∧ ∃ t', setT (tree X m 0) l (tree N n 0) = some t' ∧ t'.flat ByteArray.empty (-1) 0 = putL N n p e (partL X m p ar (nm7 (N ar).kind y)) ∧ t'.cnt = (n - (e - p)) + m := by
  have hl : l ≠ [] := fun h => by rw [h] at hy; simp at hy
  obtain ⟨h1, h2⟩ := plc_go hg l 0 y hg.1.1 hy
  have hs := set_some (x := tree X m 0) (tree N n 0) hl
  have hno : plcT l (tree N n 0) = none → setT (tree X m 0) l (tree N n 0) = none := fun h => by
    rw [h] at hs
    cases hr : setT (tree X m 0) l (tree N n 0) with
    | none => rfl
    | some t' => rw [hr] at hs; simp at hs
  refine ⟨fun h => hno (h1 h), fun ar har => ?_⟩
  obtain ⟨h3, h4⟩ := h2 ar har
  refine ⟨fun h => hno (h3 h), fun p e hpl => ?_⟩
  obtain ⟨_, a2, a3, a4⟩ := h4 p e hpl
  rw [a4] at hs
  cases hr : setT (tree X m 0) l (tree N n 0) with
  | none => rw [hr] at hs; simp at hs
  | some t' =>
    have hbare : ∀ z, getT (tree N n 0) l.dropLast = some z → (z.kind = 6 ∨ z.kind = 7) → z.num = 0 ∧ z.text = ⟨#[]⟩ := fun z hz hk => by
      rw [get_go hg _ 0 hg.1.1, har] at hz
      obtain rfl := Option.some.inj hz
      have harn : ar < n := goN_lt' _ 0 ar hg.1.1 har
      rw [tree_eq harn] at hk ⊢
      exact bare_of (hg.1.2.2 ar harn).1 hk
    obtain ⟨⟨b1, b2, b3, b4⟩, b5⟩ := set_flat (tree X m 0) l (tree N n 0) t' _ _ _ _ hl (tree_named N n n 0 rfl hg.1.1) hbare hr a4
    rw [good_cnt hg] at b2 b4
    rw [good_cnt hX] at b4
    rw [Nat.sub_zero] at b1 b2
    refine ⟨⟨a2, a3, by omega⟩, t', rfl, ?_, by omega⟩
    rw [b5, good_flat hg, Nat.sub_zero, Nat.sub_zero, Nat.zero_add, Nat.zero_add, part_flat hX]
    unfold setL putL
    rw [partL_len, Nat.zero_add, show p + (e - p) = e by omega]
    congr 1
    · congr 1
      rw [← List.map_take, List.take_range, Nat.min_eq_left (by omega)]
      simp
    · apply List.ext_getElem?
      intro i
      rw [List.getElem?_map, List.getElem?_map, List.getElem?_map, List.getElem?_drop, List.getElem?_map]
      by_cases hi : i < n - e
      · rw [List.getElem?_range hi, List.getElem?_range (by omega)]
        simp only [Option.map_some]
        congr 2
        omega
      · rw [List.getElem?_eq_none (by simp; omega), List.getElem?_eq_none (by simp; omega)]
        rfl

end Go.Proofs.YtadlflgflnlhjaaGreatDoor
