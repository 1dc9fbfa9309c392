/- A tree without one of the parts that names lead to, and its nodes in a row. No program in this text. A tree without what names lead to: the specification's l3Remove. -/
import Derived.Test.YtcceaadidnmdaaaGreatDoorHasA
import Derived.Test.YtcceaadidnmdaaaGreatDoorSubL
import Derived.Test.YtcceaadidnmdaaaGreatDoorL3Cut
import Derived.Test.YtcceaadidnmdaaaGreatDoorPathS
import Derived.Deep.RegionHeld3
namespace Go.Proofs.YtcceaadidnmdaaaGreatDoor
open Go.RowKit
set_option linter.unusedVariables false

def dn (e s : Nat) (u : Int) : Int := if (e : Int) ≤ u then u - s else u
/-- A node behind those that went. -/
def downN (e s : Nat) (x : Nd) : Nd := { x with up := dn e s x.up }

theorem flats_down (l : List Tr) (ih : ∀ t ∈ l, ∀ nm (up up' : Int) b e s, dn e s up' = up → e ≤ b + s → t.flat nm up b = (t.flat nm up' (b + s)).map (downN e s)) : ∀ (f g : Nat → ByteArray) (i j up up' b e s : Nat), dn e s (up' : Int) = (up : Int) → e ≤ b + s → (∀ q, q < l.length → g (i + q) = f (j + q)) → Tr.flats l g i up b = (Tr.flats l f j up' (b + s)).map (downN e s) := by
  induction l with
  | nil => intros; rfl
  | cons a l ih2 =>
    intro f g i j up up' b e s hu he hg
    rw [Tr.flats, Tr.flats, List.map_append, ih a (by simp) (g i) (up : Nat) (up' : Nat) b e s hu he]
    have h0 := hg 0 (by simp)
    simp only [Nat.add_zero] at h0
    rw [h0, ih2 (fun t ht => ih t (by simp [ht])) f g (i + 1) (j + 1) up up' (b + a.cnt) e s hu (by omega) (fun q hq => by
      have := hg (q + 1) (by simp; omega)
      rw [show i + 1 + q = i + (q + 1) by omega, show j + 1 + q = j + (q + 1) by omega, this])]
    congr 3
    omega
theorem flat_down (t : Tr) : ∀ nm (up up' : Int) b e s, dn e s up' = up → e ≤ b + s → t.flat nm up b = (t.flat nm up' (b + s)).map (downN e s) := by
  refine Tr.ind (P := fun t => ∀ nm (up up' : Int) b e s, dn e s up' = up → e ≤ b + s → t.flat nm up b = (t.flat nm up' (b + s)).map (downN e s)) (fun k n t nm ks ih => ?_) t
  intro name up up' b e s hu he
  rw [Tr.flat, Tr.flat, List.map_cons]
  congr 1
  · simp only [downN]
    rw [hu]
  · rw [show b + s + 1 = b + 1 + s by omega]
    exact flats_down ks ih _ _ 0 0 b (b + s) (b + 1) e s (by unfold dn; rw [if_pos (by omega)]; omega) (by omega) (fun _ _ => rfl)
theorem flats_down' (l : List Tr) (f g : Nat → ByteArray) (i j up b e s : Nat) (hu : up < e) (he : e ≤ b + s) (hg : ∀ q, q < l.length → g (i + q) = f (j + q)) : Tr.flats l g i up b = (Tr.flats l f j up (b + s)).map (downN e s) :=
  flats_down l (fun t _ => flat_down t) f g i j up up b e s (by unfold dn; rw [if_neg (by omega)]) he hg

theorem flats_names (l : List Tr) : ∀ (f g : Nat → ByteArray) (i up b : Nat), (∀ q, q < l.length → g (i + q) = f (i + q)) → Tr.flats l g i up b = Tr.flats l f i up b := by
  induction l with
  | nil => intros; rfl
  | cons a l ih =>
    intro f g i up b hg
    have h0 := hg 0 (by simp)
    simp only [Nat.add_zero] at h0
    rw [Tr.flats, Tr.flats, h0, ih f g (i + 1) up _ (fun q hq => by
      have := hg (q + 1) (by simp; omega)
      rw [show i + 1 + q = i + (q + 1) by omega, this])]

/-- What is left of a row without s nodes from o on, the first of the row being number b. -/
def cutL (l : List Nd) (o s b : Nat) : List Nd := l.take o ++ (l.drop (o + s)).map (downN (b + o + s) s)

def remT : List ByteArray → Tr → Option Tr
  | [], _ => none
  | x :: r, t => (atI t.kind t.names x t.kids.length).bind fun i => if r.isEmpty then some (cutK t i) else (t.kids[i]?).bind fun y => (remT r y).map (withK t i)
/-- Where the part stands in the row, and how many nodes it has. -/
def posT : List ByteArray → Tr → Option (Nat × Nat)
  | [], t => some (0, t.cnt)
  | x :: r, t => (atI t.kind t.names x t.kids.length).bind fun i => (t.kids[i]?).bind fun y => (posT r y).map fun p => (1 + Tr.cnts (t.kids.take i) + p.1, p.2)

theorem nmOf_cut (k : Int) (nm : List ByteArray) (i : Nat) (q : Nat) : Tr.nmOf k (if k = 7 then nm.eraseIdx i else nm) q = if q < i then Tr.nmOf k nm q else Tr.nmOf k nm (q + 1) := by
  unfold Tr.nmOf
  by_cases h7 : k = 7
  · simp only [h7, if_true]
    rw [List.getD_eq_getElem?_getD, List.getElem?_eraseIdx]
    split <;> simp
  · simp [h7]

theorem rem_some {l : List ByteArray} (hl : l ≠ []) : ∀ t, (remT l t).isSome = (posT l t).isSome := by
  induction l with
  | nil => exact absurd rfl hl
  | cons x r ih =>
    intro t
    rw [remT, posT]
    cases ha : atI t.kind t.names x t.kids.length with
    | none => rfl
    | some i =>
      have hi := atI_lt ha
      show (if r.isEmpty then some (cutK t i) else (t.kids[i]?).bind fun y => (remT r y).map (withK t i)).isSome = ((t.kids[i]?).bind fun y => (posT r y).map fun p => (1 + Tr.cnts (t.kids.take i) + p.1, p.2)).isSome
      rw [List.getElem?_eq_getElem hi]
      show _ = ((posT r _).map _).isSome
      rw [Option.isSome_map]
      cases r with
      | nil => rfl
      | cons z r =>
        show ((remT (z :: r) _).map _).isSome = _
        rw [Option.isSome_map]
        exact ih (by simp) _

theorem cutL_mid (h : Nd) (P M R : List Nd) (o' s b : Nat) (ho : o' + s ≤ M.length) : cutL (h :: (P ++ (M ++ R))) (1 + P.length + o') s b = h :: (P ++ (M.take o' ++ ((M.drop (o' + s)).map (downN (b + (1 + P.length + o') + s) s) ++ R.map (downN (b + (1 + P.length + o') + s) s)))) := by
  unfold cutL
  have e1 : (h :: (P ++ (M ++ R))).take (1 + P.length + o') = h :: (P ++ M.take o') := by
    rw [show 1 + P.length + o' = (P.length + o') + 1 by omega, List.take_succ_cons, List.take_length_add_append, List.take_append_of_le_length (by omega)]
  have e2 : (h :: (P ++ (M ++ R))).drop (1 + P.length + o' + s) = M.drop (o' + s) ++ R := by
    rw [show 1 + P.length + o' + s = (P.length + (o' + s)) + 1 by omega, List.drop_succ_cons, List.drop_length_add_append, List.drop_append_of_le_length (by omega)]
  rw [e1, e2, List.map_append]
  simp

theorem rem_flat : ∀ (l : List ByteArray) (t t' : Tr) (o s : Nat), l ≠ [] → remT l t = some t' → posT l t = some (o, s) → (1 ≤ o ∧ o + s ≤ t.cnt ∧ t'.cnt + s = t.cnt) ∧ ∀ nm (up : Int) b, t'.flat nm up b = cutL (t.flat nm up b) o s b := by
  intro l
  induction l with
  | nil => intro t t' o s h; exact absurd rfl h
  | cons x r ih =>
    intro t t' o s _ hr hp
    obtain ⟨k, n, tx, nm, ks⟩ := t
    rw [remT] at hr
    rw [posT] at hp
    dsimp only [Tr.kind, Tr.names, Tr.kids] at hr hp
    cases ha : atI k nm x ks.length with
    | none => rw [ha] at hr; simp at hr
    | some i =>
      have hi := atI_lt ha
      rw [ha] at hr hp
      simp only [Option.bind_some] at hr hp
      rw [List.getElem?_eq_getElem hi] at hr hp
      obtain ⟨y, hy⟩ : ∃ y, y = ks[i] := ⟨_, rfl⟩
      rw [← hy] at hr hp
      simp only [Option.bind_some] at hr hp
      obtain ⟨A, hA⟩ : ∃ A, A = ks.take i := ⟨_, rfl⟩
      obtain ⟨B, hB⟩ : ∃ B, B = ks.drop (i + 1) := ⟨_, rfl⟩
      have hAl : A.length = i := by rw [hA, List.length_take]; omega
      have hks : ks = A ++ y :: B := by rw [hA, hB, hy, List.getElem_cons_drop, List.take_append_drop]
      rw [← hA] at hp
      have hcnt : Tr.cnts ks = Tr.cnts A + (y.cnt + Tr.cnts B) := by rw [hks, Tr.cnts_append, Tr.cnts]
      have hflat : ∀ nm0 (up : Int) b, (Tr.mk k n tx nm ks).flat nm0 up b = ⟨k, n, tx, nm0, up⟩ :: (Tr.flats A (Tr.nmOf k nm) 0 b (b + 1) ++ (y.flat (Tr.nmOf k nm i) (b : Nat) (b + 1 + Tr.cnts A) ++ Tr.flats B (Tr.nmOf k nm) (i + 1) b (b + 1 + Tr.cnts A + y.cnt))) := by
        intro nm0 up b
        rw [Tr.flat, hks, Tr.flats_append, Tr.flats, hAl, Nat.zero_add]
      have l1 : ∀ b, (Tr.flats A (Tr.nmOf k nm) 0 b (b + 1)).length = Tr.cnts A := fun b => Tr.flats_len _ _ _ _ _
      have l2 : ∀ b, (y.flat (Tr.nmOf k nm i) (b : Nat) (b + 1 + Tr.cnts A)).length = y.cnt := fun b => Tr.flat_length _ _ _ _
      cases r with
      | nil =>
        rw [posT] at hp
        simp only [Option.map_some, Option.some.injEq, Prod.mk.injEq, Nat.add_zero] at hp
        obtain ⟨rfl, rfl⟩ := hp
        have ht' : t' = cutK (.mk k n tx nm ks) i := by simpa using hr.symm
        have hc : (cutK (.mk k n tx nm ks) i) = .mk k n tx (if k = 7 then nm.eraseIdx i else nm) (A ++ B) := by
          rw [cutK]
          congr 1
          rw [List.eraseIdx_eq_take_drop_succ, ← hA, ← hB]
        rw [ht', hc]
        refine ⟨⟨by omega, by rw [Tr.cnt, hcnt]; omega, by rw [Tr.cnt, Tr.cnt, hcnt, Tr.cnts_append]; omega⟩, fun nm0 up b => ?_⟩
        have hmid := cutL_mid ⟨k, n, tx, nm0, up⟩ (Tr.flats A (Tr.nmOf k nm) 0 b (b + 1)) (y.flat (Tr.nmOf k nm i) (b : Nat) (b + 1 + Tr.cnts A)) (Tr.flats B (Tr.nmOf k nm) (i + 1) b (b + 1 + Tr.cnts A + y.cnt)) 0 y.cnt b (by rw [l2]; omega)
        rw [l1] at hmid
        simp only [Nat.add_zero] at hmid
        rw [hflat, hmid, Tr.flat, Tr.flats_append, hAl, Nat.zero_add]
        congr 2
        · refine flats_names A _ _ 0 b (b + 1) (fun q hq => ?_)
          rw [nmOf_cut, if_pos (by omega)]
        · rw [List.take_zero, Nat.zero_add, List.drop_of_length_le (by rw [l2]; omega), List.map_nil, List.nil_append, List.nil_append]
          exact flats_down' B _ _ i (i + 1) b (b + 1 + Tr.cnts A) (b + (1 + Tr.cnts A) + y.cnt) y.cnt (by omega) (by omega) (fun q hq => by rw [nmOf_cut, if_neg (by omega)]; congr 1; omega)
      | cons z r =>
        simp only [List.isEmpty_cons, Bool.false_eq_true, if_false] at hr
        obtain ⟨y', hy', ht'⟩ := Option.map_eq_some_iff.1 hr
        obtain ⟨⟨o', s'⟩, hpy, hpe⟩ := Option.map_eq_some_iff.1 hp
        simp only [Prod.mk.injEq] at hpe
        obtain ⟨rfl, rfl⟩ := hpe
        obtain ⟨⟨h1, h2, h3⟩, h4⟩ := ih y y' o' s' (by simp) hy' hpy
        have hc : withK (.mk k n tx nm ks) i y' = .mk k n tx nm (A ++ y' :: B) := by
          rw [withK]
          congr 1
          rw [hks, List.set_append_right _ _ (by omega), hAl, Nat.sub_self, List.set_cons_zero]
        rw [← ht', hc]
        refine ⟨⟨by omega, by rw [Tr.cnt, hcnt]; omega, by rw [Tr.cnt, Tr.cnt, hcnt, Tr.cnts_append, Tr.cnts]; omega⟩, fun nm0 up b => ?_⟩
        have hmid := cutL_mid ⟨k, n, tx, nm0, up⟩ (Tr.flats A (Tr.nmOf k nm) 0 b (b + 1)) (y.flat (Tr.nmOf k nm i) (b : Nat) (b + 1 + Tr.cnts A)) (Tr.flats B (Tr.nmOf k nm) (i + 1) b (b + 1 + Tr.cnts A + y.cnt)) o' s' b (by rw [l2]; omega)
        rw [l1] at hmid
        rw [hflat, hmid, Tr.flat, Tr.flats_append, Tr.flats, hAl, Nat.zero_add, h4]
        unfold cutL
        rw [List.append_assoc]
        congr 4
        · congr 2
          omega
        · have := flats_down' B (Tr.nmOf k nm) (Tr.nmOf k nm) (i + 1) (i + 1) b (b + 1 + Tr.cnts A + y'.cnt) (b + (1 + Tr.cnts A + o') + s') s' (by omega) (by omega) (fun _ _ => rfl)
          rw [this]
          congr 2
          omega

/-- Where a part stands among the nodes. -/
theorem kid_off {N : Nat → Nd} {n k : Nat} (hg : GoodV N n) (hk : k < n) {c : Nat} (hc : c ∈ kidsTo N k n) : Tr.cnts ((kidsTo N k c).map (tree N n)) = c - (k + 1) ∧ k + 1 ≤ c := by
  obtain ⟨e, he⟩ := end_of (N := N) hk
  have hC := parts_ind (good_pre hg) hk (fun q => k + 1 ≤ q ∧ Tr.cnts ((kidsTo N k q).map (tree N n)) = q - (k + 1) ∧ ∀ c ∈ kidsTo N k q, Tr.cnts ((kidsTo N k c).map (tree N n)) = c - (k + 1) ∧ k + 1 ≤ c)
    (by
      have hz : ∀ j, j ≤ k + 1 → kidsTo N k j = [] := by
        intro j
        induction j with
        | zero => intro _; rfl
        | succ j ihj => intro hj; rw [kidsTo, if_neg (by omega), ihj (by omega)]
      rw [hz _ (Nat.le_refl _)]
      exact ⟨Nat.le_refl _, by simp [Tr.cnts], fun c hc => by simp at hc⟩)
    (by
      intro q e' hb hq hu he' hkid ⟨c1, c2, c3⟩
      have he1 := he'.1
      have hcq : (tree N n q).cnt = e' - q := by
        have := congrArg List.length (flat_tree (good_pre hg) (good_noNames hg) (n - q) q rfl hq e' he' ByteArray.empty 0 0)
        rw [Tr.flat_length, List.length_cons, seg_len] at this
        omega
      refine ⟨by omega, ?_, fun c hc => ?_⟩
      · rw [hkid, List.map_append, List.map_cons, List.map_nil, Tr.cnts_append, c2, Tr.cnts, Tr.cnts, hcq]
        omega
      · rw [hkid] at hc
        rcases List.mem_append.1 hc with hc | hc
        · exact c3 c hc
        · simp at hc; subst hc; exact ⟨c2, c1⟩)
    e he
  rw [hC.1] at hc
  exact hC.2.2.2 c hc
theorem take_kid {N : Nat → Nd} {n k i c : Nat} (h : (kidsTo N k n)[i]? = some c) : (kidsTo N k n).take i = kidsTo N k c := by
  have hm := kidsTo_mem (List.mem_of_getElem? h)
  obtain ⟨t, ht⟩ := kidsTo_prefix N k (c + 1) (n - (c + 1))
  rw [show c + 1 + (n - (c + 1)) = n by omega, kidsTo, if_pos ⟨hm.1, hm.2.2⟩] at ht
  have hs : ∀ j, (kidsTo N k j).Pairwise (· < ·) := by
    intro j
    induction j with
    | zero => exact List.Pairwise.nil
    | succ j ih =>
      rw [kidsTo]
      split
      · rw [List.pairwise_append]
        refine ⟨ih, by simp, fun a ha b hb => ?_⟩
        simp at hb; subst hb
        exact (kidsTo_mem ha).2.1
      · exact ih
  have hq : (kidsTo N k n)[(kidsTo N k c).length]? = some c := by rw [ht, List.append_assoc, List.getElem?_append_right (Nat.le_refl _)]; simp
  have hil := (List.getElem?_eq_some_iff.1 h)
  have hql := (List.getElem?_eq_some_iff.1 hq)
  obtain ⟨hil, hie⟩ := hil
  obtain ⟨hql, hqe⟩ := hql
  have hpw := List.pairwise_iff_getElem.1 (hs n)
  have : i = (kidsTo N k c).length := by
    rcases Nat.lt_trichotomy i (kidsTo N k c).length with h | h | h
    · have := hpw i _ hil hql h; omega
    · exact h
    · have := hpw _ i hql hil h; omega
  rw [this, ht, List.append_assoc, List.take_left]

theorem pos_go {N : Nat → Nd} {n : Nat} (hg : GoodV N n) : ∀ (l : List ByteArray) (q : Nat), q < n → (goN N n q l = none → posT l (tree N n q) = none) ∧ ∀ p e, goN N n q l = some p → IsEnd N n p e → q ≤ p ∧ posT l (tree N n q) = some (p - q, e - p) := by
  intro l
  induction l with
  | nil =>
    intro q hq
    refine ⟨fun h => by simp [goN] at h, fun p e h he => ?_⟩
    rw [goN] at h
    obtain rfl := Option.some.inj h
    refine ⟨Nat.le_refl _, ?_⟩
    have := congrArg List.length (flat_tree (good_pre hg) (good_noNames hg) (n - q) q rfl hq e he ByteArray.empty 0 0)
    rw [Tr.flat_length, List.length_cons, seg_len] at this
    have he1 := he.1
    rw [posT, this]
    congr 2
    · omega
    · omega
  | cons x r ih =>
    intro q hq
    rw [goN, posT, tree_eq hq]
    dsimp only [Tr.kind, Tr.names, Tr.kids]
    rw [find_at hg, List.length_map]
    cases ha : atI (N q).kind (kidNames N q (kidsTo N q n)) x (kidsTo N q n).length with
    | none => exact ⟨fun _ => rfl, fun p e h => by simp at h⟩
    | some i =>
      have hi := atI_lt ha
      have hc : (kidsTo N q n)[i]? = some (kidsTo N q n)[i] := List.getElem?_eq_getElem hi
      obtain ⟨c, hcc⟩ : ∃ c, c = (kidsTo N q n)[i] := ⟨_, rfl⟩
      rw [← hcc] at hc
      have hm := kidsTo_mem (List.mem_of_getElem? hc)
      have hoff := kid_off hg hq (List.mem_of_getElem? hc)
      simp only [Option.bind_some]
      rw [hc, List.getElem?_map, hc]
      simp only [Option.bind_some, Option.map_some]
      obtain ⟨ih1, ih2⟩ := ih c hm.2.1
      refine ⟨fun h => by rw [ih1 h]; rfl, fun p e h he => ?_⟩
      obtain ⟨h1, h2⟩ := ih2 p e h he
      refine ⟨by omega, ?_⟩
      rw [h2, ← List.map_take, take_kid hc, hoff.1]
      simp only [Option.map_some]
      congr 2
      omega

/-- What the program leaves: the nodes ahead, and those behind, moved. -/
def cutN (N : Nat → Nd) (n p e : Nat) : List Nd := cutL ((List.range n).map N) p (e - p) 0
theorem rem_go {N : Nat → Nd} {n : Nat} (hg : GoodV N n) (l : List ByteArray) (hl : l ≠ []) : (goN N n 0 l = none → remT l (tree N n 0) = none) ∧ ∀ p e, goN N n 0 l = some p → IsEnd N n p e → ∃ t', remT l (tree N n 0) = some t' ∧ t'.flat ByteArray.empty (-1) 0 = cutN N n p e ∧ 0 < p ∧ t'.cnt + (e - p) = n := by
  obtain ⟨h1, h2⟩ := pos_go hg l 0 hg.1.1
  have hs := rem_some hl (tree N n 0)
  refine ⟨fun h => ?_, fun p e h he => ?_⟩
  · rw [h1 h] at hs
    cases hr : remT l (tree N n 0) with
    | none => rfl
    | some t' => rw [hr] at hs; simp at hs
  · obtain ⟨_, h3⟩ := h2 p e h he
    rw [h3] at hs
    cases hr : remT l (tree N n 0) with
    | none => rw [hr] at hs; simp at hs
    | some t' =>
      obtain ⟨⟨a1, a2, a3⟩, h4⟩ := rem_flat l (tree N n 0) t' _ _ hl hr h3
      rw [Nat.sub_zero] at h4 a1
      refine ⟨t', rfl, ?_, a1, by rw [← good_cnt hg]; exact a3⟩
      rw [h4, good_flat hg]
      rfl

end Go.Proofs.YtcceaadidnmdaaaGreatDoor
namespace Go.Proofs.YtcceaadidnmdaaaGreatDoor
open Go.RowKit
set_option linter.unusedVariables false

/-- WHAT l3Remove ANSWERS. -/
def RemIs (S : Nat → Prop) (t : Tr) (l : List ByteArray) (w : World) (e : Ending) (w' : World) : Prop :=
  ∃ (k n : Int) (tx : ByteArray) (an : Option Addr) (mn cn : Nat) (ak : Option Addr) (mk ck : Nat), e = .returned (.tuple #[.agg #[.int .i64 k, .int .i64 n, .string tx, .slice an mn cn, .slice ak mk ck], .bool (remT l t).isSome]) ∧ (∀ x, remT l t = some x → TreeIs w' (fun b => S b ∨ w.heap.size ≤ b) x (.agg #[.int .i64 k, .int .i64 n, .string tx, .slice an mn cn, .slice ak mk ck])) ∧ Below w.heap.size w w'

theorem lst_cons (f : Nat → ByteArray) (m : Nat) : lst f (m + 1) = f 0 :: lst (fun i => f (i + 1)) m := by
  unfold lst
  rw [List.range_succ_eq_map, List.map_cons, List.map_map]
  rfl

theorem tree_past {w w' : World} {S1 S2 : Nat → Prop} {t : Tr} {v : Value} {C : Nat} (h : TreeIs w S1 t v) (hb : BelowBut w.heap.size C w w') (h1 : ∀ b, S1 b → b < w.heap.size → b ≠ C) (h2 : ∀ b, S1 b → S2 b) : TreeIs w' S2 t v :=
  TreeIs.keep (fun b hS hlt => hb.block b hlt (h1 b hS hlt)) (fun b hS _ => h2 b hS) hb.size _ _ h
theorem tree_old {w w' : World} {S : Nat → Prop} {t : Tr} {v : Value} (h : TreeIs w S t v) (hb : Below w.heap.size w w') : TreeIs w' (fun b => S b ∧ b < w.heap.size) t v :=
  TreeIs.keep (fun b _ hlt => hb.block b hlt) (fun b hS hlt => ⟨hS, hlt⟩) hb.size _ _ h

set_option maxRecDepth 100000 in
set_option maxHeartbeats 4000000 in
theorem l3Remove_any : ∀ (m : Nat) (t : Tr) (v : Value) (a : Option Addr) (ca : Nat) (f : Nat → ByteArray) (w : World) (S : Nat → Prop), TreeIs w S t v → t.named → t.cnt ≤ 2 ^ 20 → m ≤ 2 ^ 20 → m ≤ ca → ArgS w a m f →
    Calls Tryz.prog 27 #[v, .slice a m ca] w (RemIs S t (lst f m) w) := by
  intro m
  induction m with
  | zero =>
    intro t v a ca f w S h hnd hc hm hca ha
    obtain ⟨k, n, tx, nm, ks⟩ := t
    obtain ⟨an, cn, ak, ck, rfl⟩ := (TreeIs.any h).head
    dsimp only [Tr.kind, Tr.num, Tr.text, Tr.names, Tr.kids] at h ⊢
    have hf1 := fiveAt_new (w.alloc (.cells #[.int .i64 k, .int .i64 n, .string tx, .slice an nm.length cn, .slice ak ks.length ck] 44)) (.int .i64 0) (.int .i64 0) (.string ⟨#[]⟩) (.slice none 0 0) (.slice none 0 0) 44
    rw [World.size_alloc] at hf1
    go_enter Tryz.func27, Tryz.ntmps27
    go_upto_region 2 with fail
    generalize hW : (w.alloc (.cells #[.int .i64 k, .int .i64 n, .string tx, .slice an nm.length cn, .slice ak ks.length ck] 44)).alloc (.cells #[.int .i64 0, .int .i64 0, .string ⟨#[]⟩, .slice none 0 0, .slice none 0 0] 44) = W0 at hf1 ⊢
    have HB0 : Hid (Below w.heap.size w W0) := by show Below _ _ _; rw [← hW]; exact ((Below.refl _ w).alloc (Nat.le_refl _) _).alloc (by simp) _
    clear hW
    have HQ := hf1.set (.int .i64 0) (.int .i64 0) (.string ⟨#[]⟩) (.slice none 0 0) (.slice none 0 0)
    obtain ⟨⟨⟨s0, s1, s2, s3, s4⟩, _⟩, hbb⟩ := id HQ
    have HBF : Hid (Below w.heap.size w _) := HB0.out.trans ((hbb w.heap.size).below (Nat.le_refl _) (by omega))
    obtain ⟨⟨v0, v1, v2, v3, v4⟩, y0, y1, y2, y3, y4⟩ := hf1
    clear HQ hbb
    go_wp2_with fail
    exact bodyPost_ret (v := .tuple #[.agg #[.int .i64 0, .int .i64 0, .string ⟨#[]⟩, .slice none 0 0, .slice none 0 0], .bool false]) (by simp [results, Tryz.results27, go_sem, s0, s1, s2, s3, s4]) rfl ⟨_, _, _, _, _, _, _, _, _, rfl, fun x hx => by simp [lst, remT] at hx, HBF.out⟩
  | succ m ihm =>
    intro t v a ca f w S h hnd hc hm hca ha
    obtain ⟨k, n, tx, nm, ks⟩ := t
    obtain ⟨an, cn, ak, ck, rfl⟩ := (TreeIs.any h).head
    dsimp only [Tr.kind, Tr.num, Tr.text, Tr.names, Tr.kids] at h ⊢
    have HT : Hid (TreeIs w S (.mk k n tx nm ks) (.agg #[.int .i64 k, .int .i64 n, .string tx, .slice an nm.length cn, .slice ak ks.length ck]) ∧ (Tr.mk k n tx nm ks).named ∧ (Tr.mk k n tx nm ks).cnt ≤ 2 ^ 20) := ⟨h, hnd, hc⟩
    have hkl : ks.length ≤ 2 ^ 20 := by
      have h1 := Tr.len_cnts ks
      rw [Tr.cnt] at hc
      omega
    have HND : Hid (k = 7 → nm.length = ks.length) := by
      rw [Tr.named] at hnd
      exact hnd.1
    have HIH : Hid (∀ (t : Tr) (v : Value) (a : Option Addr) (ca : Nat) (f : Nat → ByteArray) (w : World) (S : Nat → Prop), TreeIs w S t v → t.named → t.cnt ≤ 2 ^ 20 → m ≤ 2 ^ 20 → m ≤ ca → ArgS w a m f → Calls Tryz.prog 27 #[v, .slice a m ca] w (RemIs S t (lst f m) w)) := ihm
    obtain ⟨b, off, rfl, hb, hat⟩ : ∃ b off, a = some ⟨b, off, none⟩ ∧ b < w.heap.size ∧ ∀ i, i < m + 1 → w.cell? ⟨b, off + i, none⟩ = some (.string (f i)) := by
      rcases ha with h0 | h0
      · omega
      · exact h0
    have a0 := hat 0 (by omega)
    rw [Nat.add_zero] at a0
    have HAT : Hid (∀ i, i < m + 1 → w.cell? ⟨b, off + i, none⟩ = some (.string (f i))) := hat
    have HR : Hid (remT (lst f (m + 1)) (.mk k n tx nm ks) = (atI k nm (f 0) ks.length).bind fun i => if (lst (fun i => f (i + 1)) m).isEmpty then some (cutK (.mk k n tx nm ks) i) else (ks[i]?).bind fun y => (remT (lst (fun i => f (i + 1)) m) y).map (withK (.mk k n tx nm ks) i)) := by
      show _ = _
      rw [lst_cons, remT]
      rfl
    clear h hnd hc ihm ha hat
    go_enter Tryz.func27, Tryz.ntmps27
    have m1 : ((m + 1 : Nat) : Int) = (m : Int) + 1 := by omega
    have m2 : ¬ ((m : Int) + 1 = 0) := by omega
    have m3 : (((m : Int) + 1) == 0) = false := by simpa using m2
    go_upto_region 3 with fail
    generalize hW : (w.alloc (.cells #[.int .i64 k, .int .i64 n, .string tx, .slice an nm.length cn, .slice ak ks.length ck] 44)).alloc (.cells #[.int .i64 0, .int .i64 0, .string ⟨#[]⟩, .slice none 0 0, .slice none 0 0] 44) = W0
    have hs0 : W0.heap.size = w.heap.size + 2 := by rw [← hW]; simp
    have HB0 : Hid (Below w.heap.size w W0) := by show Below _ _ _; rw [← hW]; exact ((Below.refl _ w).alloc (Nat.le_refl _) _).alloc (by simp) _
    have HV : Hid (FiveAt W0 w.heap.size (.int .i64 k) (.int .i64 n) (.string tx) (.slice an nm.length cn) (.slice ak ks.length ck)) := by
      show FiveAt _ _ _ _ _ _ _
      rw [← hW]
      exact (fiveAt_new w _ _ _ _ _ _).below ((Below.refl _ _).alloc (Nat.le_refl _) _) (by simp)
    have HZ : Hid (FiveAt W0 (w.heap.size + 1) (.int .i64 0) (.int .i64 0) (.string ⟨#[]⟩) (.slice none 0 0) (.slice none 0 0)) := by
      show FiveAt _ _ _ _ _ _ _
      rw [← hW]
      have := fiveAt_new (w.alloc (.cells #[.int .i64 k, .int .i64 n, .string tx, .slice an nm.length cn, .slice ak ks.length ck] 44)) (.int .i64 0) (.int .i64 0) (.string ⟨#[]⟩) (.slice none 0 0) (.slice none 0 0) 44
      rw [World.size_alloc] at this
      exact this
    clear hW
    go_cut [6] (fun q wx => q = .int .i64 (atV (atI k nm (f 0) ks.length)) ∧ Hid (FiveAt wx w.heap.size (.int .i64 k) (.int .i64 n) (.string tx) (.slice an nm.length cn) (.slice ak ks.length ck) ∧ FiveAt wx (w.heap.size + 1) (.int .i64 0) (.int .i64 0) (.string ⟨#[]⟩) (.slice none 0 0) (.slice none 0 0) ∧ w.heap.size + 2 ≤ wx.heap.size ∧ Below w.heap.size w wx))
    case first =>
      have n0 := (HB0.out.cell (p := ⟨b, off, none⟩) hb).trans a0
      obtain ⟨⟨x0, x1, x2, x3, x4⟩, _⟩ := HV.out
      have i0 : (0 : Int) < (m : Int) + 1 := by omega
      have i1 : (0 : Int) < ((m + 1 : Nat) : Int) := by omega
      have i2 : 0 < m + 1 := by omega
      have hw0 : w.heap.size < W0.heap.size := by omega
      have hb0 : b < W0.heap.size := by omega
      go_region_held3 (fun w' => w'.cell? ⟨w.heap.size, 0, none⟩ = some (.int .i64 k) ∧ w'.cell? ⟨w.heap.size, 1, none⟩ = some (.int .i64 n) ∧ w'.cell? ⟨w.heap.size, 2, none⟩ = some (.string tx) ∧ w'.cell? ⟨w.heap.size, 3, none⟩ = some (.slice an nm.length cn) ∧ w'.cell? ⟨w.heap.size, 4, none⟩ = some (.slice ak ks.length ck) ∧ w'.cell? ⟨b, off, none⟩ = some (.string (f 0))) (first | exact ⟨x0, x1, x2, x3, x4, n0⟩ | exact ⟨(hc1 _ _ hw0).trans x0, (hc1 _ _ hw0).trans x1, (hc1 _ _ hw0).trans x2, (hc1 _ _ hw0).trans x3, (hc1 _ _ hw0).trans x4, (hc1 _ _ hb0).trans n0⟩)
        (first | (go_at_call 36; refine (l3At_any k n tx nm ks _ (f 0) _ ((TreeIs.any HT.out.1).below (HB0.out.drew)) HND.out hkl).mono ?_; rintro e w1 ⟨rfl, hb1⟩; obtain ⟨hc1, hf1⟩ := bcell hb1))
      have hb2 : Below W0.heap.size W0 w1 := (Below.drew (Below.refl W0.heap.size W0)).trans hb1
      have HG : Hid (FiveAt w1 w.heap.size (.int .i64 k) (.int .i64 n) (.string tx) (.slice an nm.length cn) (.slice ak ks.length ck) ∧ FiveAt w1 (w.heap.size + 1) (.int .i64 0) (.int .i64 0) (.string ⟨#[]⟩) (.slice none 0 0) (.slice none 0 0) ∧ w.heap.size + 2 ≤ w1.heap.size ∧ Below w.heap.size w w1) := ⟨HV.out.below hb2 (by omega), HZ.out.below hb2 (by omega), by have := hb2.size; omega, HB0.out.trans (hb2.mono (by omega))⟩
      go_wp2_with fail
      go_meet
      case rel => exact ⟨rfl, HG⟩
    case rest =>
      obtain ⟨rfl, HF⟩ := hcut
      clear HV HZ HB0 hs0
      cases hai : atI k nm (f 0) ks.length with
      | none =>
        have HN : Hid (remT (lst f (m + 1)) (.mk k n tx nm ks) = none) := by show _ = _; rw [HR.out, hai]; rfl
        rw [show atV none = (-1 : Int) from rfl]
        have hlt0 : (-1 : Int) < 0 := by decide
        obtain ⟨hV1, hZ1, hz1, hB1⟩ := HF.out
        have HQ := hZ1.set (.int .i64 0) (.int .i64 0) (.string ⟨#[]⟩) (.slice none 0 0) (.slice none 0 0)
        obtain ⟨⟨⟨s0, s1, s2, s3, s4⟩, _⟩, hbb⟩ := id HQ
        have HBF : Hid (Below w.heap.size w _) := hB1.trans ((hbb w.heap.size).below (Nat.le_refl _) (by omega))
        obtain ⟨⟨v0, v1, v2, v3, v4⟩, y0, y1, y2, y3, y4⟩ := hZ1
        clear HQ hbb
        go_wp2_with fail
        exact bodyPost_ret (v := .tuple #[.agg #[.int .i64 0, .int .i64 0, .string ⟨#[]⟩, .slice none 0 0, .slice none 0 0], .bool false]) (by simp [results, Tryz.results27, go_sem, s0, s1, s2, s3, s4]) rfl ⟨_, _, _, _, _, _, _, _, _, by rw [HN.out]; rfl, fun x hx => by rw [HN.out] at hx; simp at hx, HBF.out⟩
      | some i =>
        have hil : i < ks.length := atI_lt hai
        obtain ⟨x, hx⟩ : ∃ x, ks[i]? = some x := ⟨ks[i], List.getElem?_eq_getElem hil⟩
        have hni : ¬ ((i : Int) < 0) := by omega
        rw [show atV (some i) = (i : Int) from rfl]
        cases m with
        | zero =>
          have HN : Hid (remT (lst f 1) (.mk k n tx nm ks) = some (cutK (.mk k n tx nm ks) i)) := by show _ = _; have := HR.out; rw [hai] at this; exact this
          obtain ⟨hV1, hZ1, hz1, hB1⟩ := HF.out
          obtain ⟨⟨x0, x1, x2, x3, x4⟩, _⟩ := hV1
          go_wp2_with fail
          refine (l3Cut_any (fun b => S b ∧ b < w.heap.size) (.mk k n tx nm ks) _ i _ (tree_old HT.out.1 hB1) HT.out.2.1 hil hkl).mono ?_
          rintro e w2 ⟨k2, n2, t2, an2, mn2, cn2, ak2, mk2, ck2, rfl, htr2, hb2⟩
          have hZ2 := hZ1.below hb2 (by omega)
          have hB2 : Below w.heap.size w w2 := hB1.trans (hb2.mono hB1.size)
          have HQ := hZ2.set (.int .i64 k2) (.int .i64 n2) (.string t2) (.slice an2 mn2 cn2) (.slice ak2 mk2 ck2)
          obtain ⟨⟨⟨s0, s1, s2, s3, s4⟩, _⟩, hbb⟩ := id HQ
          have HBF : Hid (Below w.heap.size w (((((w2.setCell ⟨w.heap.size + 1, 0, none⟩ (.int .i64 k2)).setCell ⟨w.heap.size + 1, 1, none⟩ (.int .i64 n2)).setCell ⟨w.heap.size + 1, 2, none⟩ (.string t2)).setCell ⟨w.heap.size + 1, 3, none⟩ (.slice an2 mn2 cn2)).setCell ⟨w.heap.size + 1, 4, none⟩ (.slice ak2 mk2 ck2))) := hB2.trans ((hbb w.heap.size).below (Nat.le_refl _) (by omega))
          have HTF : Hid (TreeIs (((((w2.setCell ⟨w.heap.size + 1, 0, none⟩ (.int .i64 k2)).setCell ⟨w.heap.size + 1, 1, none⟩ (.int .i64 n2)).setCell ⟨w.heap.size + 1, 2, none⟩ (.string t2)).setCell ⟨w.heap.size + 1, 3, none⟩ (.slice an2 mn2 cn2)).setCell ⟨w.heap.size + 1, 4, none⟩ (.slice ak2 mk2 ck2)) (fun b => S b ∨ w.heap.size ≤ b) (cutK (.mk k n tx nm ks) i) (.agg #[.int .i64 k2, .int .i64 n2, .string t2, .slice an2 mn2 cn2, .slice ak2 mk2 ck2])) := tree_past htr2 (hbb w2.heap.size) (fun b hS _ => by rcases hS with h | h <;> omega) (fun b hS => by rcases hS with h | h; exact .inl h.1; exact .inr (by omega))
          obtain ⟨⟨v0, v1, v2, v3, v4⟩, y0, y1, y2, y3, y4⟩ := hZ2
          clear HQ hbb htr2 hb2
          go_wp2_with fail
          exact bodyPost_ret (v := .tuple #[.agg #[.int .i64 k2, .int .i64 n2, .string t2, .slice an2 mn2 cn2, .slice ak2 mk2 ck2], .bool true]) (by simp [results, Tryz.results27, go_sem, s0, s1, s2, s3, s4]) rfl ⟨_, _, _, _, _, _, _, _, _, by rw [HN.out]; rfl, fun x hx => by rw [HN.out] at hx; obtain rfl := Option.some.inj hx; exact HTF.out, HBF.out⟩
        | succ m' =>
          obtain ⟨g, rfl, hg, hkid⟩ : ∃ g, ak = some ⟨g, 0, none⟩ ∧ g < w.heap.size ∧ KidAt w S x g i := by
            obtain ⟨an', cn', ak', ck', e, _, hk⟩ := TreeIs.open HT.out.1
            simp only [Value.agg.injEq, Array.mk.injEq, List.cons.injEq, and_true] at e
            obtain ⟨_, _, _, _, e⟩ := e
            obtain ⟨rfl, _⟩ : ak = ak' ∧ ck = ck' := by simpa using e
            rcases hk with h0 | ⟨g, rfl, _, hg, hkid⟩
            · rw [h0] at hil; simp at hil
            · exact ⟨g, rfl, hg, hkid i x hx⟩
          obtain ⟨xan, xcn, xak, xck, e0, e1, e2, e3, e4, htr⟩ := hkid.cellsS
          have HTX : Hid (TreeIs w S x (.agg #[.int .i64 x.kind, .int .i64 x.num, .string x.text, .slice xan x.names.length xcn, .slice xak x.kids.length xck])) := htr
          have hxm := List.mem_of_getElem? hx
          have HXX : Hid (x.named ∧ x.cnt ≤ 2 ^ 20) := by
            have h1 := HT.out.2.1
            rw [Tr.named] at h1
            have h2 := HT.out.2.2
            rw [Tr.cnt] at h2
            have h3 := Tr.cnt_mem hxm
            exact ⟨Tr.nameds_mem.1 h1.2 x hxm, by omega⟩
          have HN : Hid (remT (lst f (m' + 1 + 1)) (.mk k n tx nm ks) = (remT (lst (fun i => f (i + 1)) (m' + 1)) x).map (withK (.mk k n tx nm ks) i)) := by
            show _ = _
            have := HR.out
            rw [hai] at this
            rw [this, lst_cons]
            show (ks[i]?).bind _ = _
            rw [hx]
            rfl
          obtain ⟨R, hR⟩ : ∃ R, R = remT (lst (fun i => f (i + 1)) (m' + 1)) x := ⟨_, rfl⟩
          have HRR : Hid (R = remT (lst (fun i => f (i + 1)) (m' + 1)) x) := hR
          rw [← hR] at HN
          clear hR hkid htr HR
          have m4 : ¬ ((m' : Int) + 1 + 1 = 1) := by omega
          have m5 : (((m' : Int) + 1 + 1) == 1) = false := by simpa using m4
          go_upto_region 8 with fail
          go_cut [7, 8] (fun p q wx => ∃ (b7 : Nat) (k7 n7 : Int) (t7 : ByteArray) (an7 : Option Addr) (mn7 cn7 : Nat) (ak7 : Option Addr) (mk7 ck7 : Nat), p = .pointer (some ⟨b7, 0, none⟩) ∧ q = .bool R.isSome ∧ Hid (FiveAt wx b7 (.int .i64 k7) (.int .i64 n7) (.string t7) (.slice an7 mn7 cn7) (.slice ak7 mk7 ck7) ∧ FiveAt wx w.heap.size (.int .i64 k) (.int .i64 n) (.string tx) (.slice an nm.length cn) (.slice (some ⟨g, 0, none⟩) ks.length ck) ∧ FiveAt wx (w.heap.size + 1) (.int .i64 0) (.int .i64 0) (.string ⟨#[]⟩) (.slice none 0 0) (.slice none 0 0) ∧ (∀ y, R = some y → TreeIs wx (fun b => (S b ∧ b < w.heap.size) ∨ (w.heap.size + 2 ≤ b ∧ b ≠ b7)) y (.agg #[.int .i64 k7, .int .i64 n7, .string t7, .slice an7 mn7 cn7, .slice ak7 mk7 ck7])) ∧ (w.heap.size + 2 ≤ b7 ∧ b7 < wx.heap.size) ∧ Below w.heap.size w wx))
          case first =>
            obtain ⟨hV1, hZ1, hz1, hB1⟩ := HF.out
            obtain ⟨⟨_, _, _, _, x4⟩, _⟩ := hV1
            have c0 := (hB1.cell (p := ⟨g, i * 5, none⟩) hg).trans e0
            have c1 := (hB1.cell (p := ⟨g, i * 5 + 1, none⟩) hg).trans e1
            have c2 := (hB1.cell (p := ⟨g, i * 5 + 2, none⟩) hg).trans e2
            have c3 := (hB1.cell (p := ⟨g, i * 5 + 3, none⟩) hg).trans e3
            have c4 := (hB1.cell (p := ⟨g, i * 5 + 4, none⟩) hg).trans e4
            have i0 : (0 : Int) ≤ (i : Int) := by omega
            have i1 : (i : Int) < (ks.length : Int) := by omega
            have i2 : ¬ ca = 1 := by omega
            have i3 : m' + 1 + 1 ≤ ca := by omega
            have i4 : (1 : Int) ≤ ((m' + 1 + 1 : Nat) : Int) := by omega
            have i5 : 1 ≤ m' + 1 + 1 := by omega
            have i6 : ((m' + 1 + 1 : Nat) : Int) ≤ (ca : Int) := by omega
            have i7 : (1 : Int) ≤ (m' : Int) + 1 + 1 := by omega
            have i8 : (m' : Int) + 1 + 1 ≤ (ca : Int) := by omega
            have i9 : (0 : Int) ≤ (m' : Int) + 1 := by omega
            have i10 : (m' : Int) + 1 + 1 - 1 = (m' : Int) + 1 := by omega
            have i11 : (0 : Int) < (m' : Int) + 1 + 1 := by omega
            have hgw : g < wc.heap.size := by omega
            have hww : w.heap.size < wc.heap.size := by omega
            clear e0 e1 e2 e3 e4
            have HSK : Hid (∀ w', Below wc.heap.size wc w' → (w'.cell? ⟨w.heap.size, 4, none⟩ = some (.slice (some ⟨g, 0, none⟩) ks.length ck) ∧ w'.cell? ⟨g, i * 5, none⟩ = some (.int .i64 x.kind) ∧ w'.cell? ⟨g, i * 5 + 1, none⟩ = some (.int .i64 x.num) ∧ w'.cell? ⟨g, i * 5 + 2, none⟩ = some (.string x.text) ∧ w'.cell? ⟨g, i * 5 + 3, none⟩ = some (.slice xan x.names.length xcn) ∧ w'.cell? ⟨g, i * 5 + 4, none⟩ = some (.slice xak x.kids.length xck))) := fun w' hb => ⟨(hb.cell hww).trans x4, (hb.cell hgw).trans c0, (hb.cell hgw).trans c1, (hb.cell hgw).trans c2, (hb.cell hgw).trans c3, (hb.cell hgw).trans c4⟩
            have HCALL : Hid (∀ W, Below wc.heap.size wc W → Calls Tryz.prog 27 #[.agg #[.int .i64 x.kind, .int .i64 x.num, .string x.text, .slice xan x.names.length xcn, .slice xak x.kids.length xck], .slice (some ⟨b, off + 1, none⟩) (m' + 1) (ca - 1)] W fun e w' => ∃ (k7 n7 : Int) (t7 : ByteArray) (an7 : Option Addr) (mn7 cn7 : Nat) (ak7 : Option Addr) (mk7 ck7 : Nat), e = .returned (.tuple #[.agg #[.int .i64 k7, .int .i64 n7, .string t7, .slice an7 mn7 cn7, .slice ak7 mk7 ck7], .bool R.isSome]) ∧ (∀ y, R = some y → TreeIs w' (fun b => (S b ∧ b < w.heap.size) ∨ W.heap.size ≤ b) y (.agg #[.int .i64 k7, .int .i64 n7, .string t7, .slice an7 mn7 cn7, .slice ak7 mk7 ck7])) ∧ Below W.heap.size W w') := fun W hW => by
              have hBW : Below w.heap.size w W := hB1.trans (hW.mono (by omega))
              have := HIH.out x _ (some ⟨b, off + 1, none⟩) (ca - 1) (fun i => f (i + 1)) W (fun b => S b ∧ b < w.heap.size) (tree_old HTX.out hBW) HXX.out.1 HXX.out.2 (by omega) (by omega) (.inr ⟨b, off + 1, rfl, by have := hBW.size; omega, fun q hq => by
                rw [hBW.cell hb]
                have := HAT.out (q + 1) (by omega)
                rwa [show off + (q + 1) = off + 1 + q by omega] at this⟩)
              unfold RemIs at this
              rw [← HRR.out] at this
              exact this
            have HBd : Hid (Below wc.heap.size wc wc.drew) := (Below.refl _ _).drew
            have HBa : Hid (Below wc.heap.size wc ((wc.alloc (.cells #[.int .i64 0, .int .i64 0, .string ⟨#[]⟩, .slice none 0 0, .slice none 0 0] 44)).drew)) := ((Below.refl _ _).alloc (Nat.le_refl _) _).drew
            have HFa : Hid (FiveAt ((wc.alloc (.cells #[.int .i64 0, .int .i64 0, .string ⟨#[]⟩, .slice none 0 0, .slice none 0 0] 44)).drew) wc.heap.size (.int .i64 0) (.int .i64 0) (.string ⟨#[]⟩) (.slice none 0 0) (.slice none 0 0)) := fiveAt_new wc (.int .i64 0) (.int .i64 0) (.string ⟨#[]⟩) (.slice none 0 0) (.slice none 0 0) 44
            go_region_held3 (fun w' => w'.cell? ⟨w.heap.size, 4, none⟩ = some (.slice (some ⟨g, 0, none⟩) ks.length ck) ∧ w'.cell? ⟨g, i * 5, none⟩ = some (.int .i64 x.kind) ∧ w'.cell? ⟨g, i * 5 + 1, none⟩ = some (.int .i64 x.num) ∧ w'.cell? ⟨g, i * 5 + 2, none⟩ = some (.string x.text) ∧ w'.cell? ⟨g, i * 5 + 3, none⟩ = some (.slice xan x.names.length xcn) ∧ w'.cell? ⟨g, i * 5 + 4, none⟩ = some (.slice xak x.kids.length xck)) (first | (with_reducible exact ⟨g0, g1, g2, g3, g4, g5⟩) | (with_reducible exact HS8) | exact ⟨x4, c0, c1, c2, c3, c4⟩ | go_keep | fail)
              (first | (go_at_call 27; refine (HCALL.out wc.drew HBd.out).mono ?_; rintro e w1 ⟨k7, n7, t7, an7, mn7, cn7, ak7, mk7, ck7, rfl, htr7, hb7⟩; have hB7 : Below wc.heap.size wc w1 := HBd.out.trans hb7; obtain ⟨g0, g1, g2, g3, g4, g5⟩ := HSK.out w1 hB7; have hz7 : wc.heap.size ≤ w1.heap.size := hB7.size) | (go_at_call 27; refine (HCALL.out ((wc.alloc (.cells #[.int .i64 0, .int .i64 0, .string ⟨#[]⟩, .slice none 0 0, .slice none 0 0] 44)).drew) HBa.out).mono ?_; rintro e w1 ⟨k7, n7, t7, an7, mn7, cn7, ak7, mk7, ck7, rfl, htr7, hb7⟩; have hB7 : Below wc.heap.size wc w1 := HBa.out.trans (hb7.mono (by show _ ≤ (wc.alloc _).heap.size; simp)); obtain ⟨g0, g1, g2, g3, g4, g5⟩ := HSK.out w1 hB7; have hz7 : wc.heap.size + 1 ≤ w1.heap.size := (by have := hb7.size; change (wc.alloc _).heap.size ≤ _ at this; rw [World.size_alloc] at this; exact this); have HZ7 : Hid (FiveAt w1 wc.heap.size (.int .i64 0) (.int .i64 0) (.string ⟨#[]⟩) (.slice none 0 0) (.slice none 0 0)) := HFa.out.below hb7 (by show _ < (wc.alloc _).heap.size; simp); have HS8 := HSK.out _ (hB7.trans (((HZ7.out.set (.int .i64 k7) (.int .i64 n7) (.string t7) (.slice an7 mn7 cn7) (.slice ak7 mk7 ck7)).2 wc.heap.size).below (Nat.le_refl _) (Nat.le_refl _))); obtain ⟨⟨z0, z1, z2, z3, z4⟩, q0, q1, q2, q3, q4⟩ := HZ7.out))
            · have hal : Below w1.heap.size w1 (w1.alloc (.cells #[.int .i64 k7, .int .i64 n7, .string t7, .slice an7 mn7 cn7, .slice ak7 mk7 ck7] 44)) := (Below.refl _ _).alloc (Nat.le_refl _) _
              have hB8 : Below wc.heap.size wc (w1.alloc (.cells #[.int .i64 k7, .int .i64 n7, .string t7, .slice an7 mn7 cn7, .slice ak7 mk7 ck7] 44)) := hB7.trans (hal.mono hz7)
              have HG : Hid (FiveAt (w1.alloc (.cells #[.int .i64 k7, .int .i64 n7, .string t7, .slice an7 mn7 cn7, .slice ak7 mk7 ck7] 44)) w1.heap.size (.int .i64 k7) (.int .i64 n7) (.string t7) (.slice an7 mn7 cn7) (.slice ak7 mk7 ck7) ∧ FiveAt (w1.alloc (.cells #[.int .i64 k7, .int .i64 n7, .string t7, .slice an7 mn7 cn7, .slice ak7 mk7 ck7] 44)) w.heap.size (.int .i64 k) (.int .i64 n) (.string tx) (.slice an nm.length cn) (.slice (some ⟨g, 0, none⟩) ks.length ck) ∧ FiveAt (w1.alloc (.cells #[.int .i64 k7, .int .i64 n7, .string t7, .slice an7 mn7 cn7, .slice ak7 mk7 ck7] 44)) (w.heap.size + 1) (.int .i64 0) (.int .i64 0) (.string ⟨#[]⟩) (.slice none 0 0) (.slice none 0 0) ∧ (∀ y, R = some y → TreeIs (w1.alloc (.cells #[.int .i64 k7, .int .i64 n7, .string t7, .slice an7 mn7 cn7, .slice ak7 mk7 ck7] 44)) (fun b => (S b ∧ b < w.heap.size) ∨ (w.heap.size + 2 ≤ b ∧ b ≠ w1.heap.size)) y (.agg #[.int .i64 k7, .int .i64 n7, .string t7, .slice an7 mn7 cn7, .slice ak7 mk7 ck7])) ∧ (w.heap.size + 2 ≤ w1.heap.size ∧ w1.heap.size < (w1.alloc (.cells #[.int .i64 k7, .int .i64 n7, .string t7, .slice an7 mn7 cn7, .slice ak7 mk7 ck7] 44)).heap.size) ∧ Below w.heap.size w (w1.alloc (.cells #[.int .i64 k7, .int .i64 n7, .string t7, .slice an7 mn7 cn7, .slice ak7 mk7 ck7] 44))) := ⟨fiveAt_new w1 (.int .i64 k7) (.int .i64 n7) (.string t7) (.slice an7 mn7 cn7) (.slice ak7 mk7 ck7) 44, HF.out.1.below hB8 (by omega), HF.out.2.1.below hB8 (by omega), fun y hy => TreeIs.keep (fun b' _ hlt => hal.block b' hlt) (fun b' hS hlt => by rcases hS with h | h; exact .inl h; exact .inr ⟨by change wc.heap.size ≤ b' at h; omega, by omega⟩) hal.size _ _ (htr7 y hy), ⟨by omega, by simp⟩, hB1.trans (hB8.mono (by omega))⟩
              clear hal hB8 htr7 hb7 hB7
              go_wp2_with fail
              go_meet
              case rel => exact ⟨_, _, _, _, _, _, _, _, _, _, rfl, rfl, HG⟩
            · have HQ := HZ7.out.set (.int .i64 k7) (.int .i64 n7) (.string t7) (.slice an7 mn7 cn7) (.slice ak7 mk7 ck7)
              have hbb := HQ.2
              have hB8 : Below wc.heap.size wc (((((w1.setCell ⟨wc.heap.size, 0, none⟩ (.int .i64 k7)).setCell ⟨wc.heap.size, 1, none⟩ (.int .i64 n7)).setCell ⟨wc.heap.size, 2, none⟩ (.string t7)).setCell ⟨wc.heap.size, 3, none⟩ (.slice an7 mn7 cn7)).setCell ⟨wc.heap.size, 4, none⟩ (.slice ak7 mk7 ck7)) := hB7.trans ((hbb wc.heap.size).below (Nat.le_refl _) (Nat.le_refl _))
              have HG : Hid (FiveAt (((((w1.setCell ⟨wc.heap.size, 0, none⟩ (.int .i64 k7)).setCell ⟨wc.heap.size, 1, none⟩ (.int .i64 n7)).setCell ⟨wc.heap.size, 2, none⟩ (.string t7)).setCell ⟨wc.heap.size, 3, none⟩ (.slice an7 mn7 cn7)).setCell ⟨wc.heap.size, 4, none⟩ (.slice ak7 mk7 ck7)) wc.heap.size (.int .i64 k7) (.int .i64 n7) (.string t7) (.slice an7 mn7 cn7) (.slice ak7 mk7 ck7) ∧ FiveAt (((((w1.setCell ⟨wc.heap.size, 0, none⟩ (.int .i64 k7)).setCell ⟨wc.heap.size, 1, none⟩ (.int .i64 n7)).setCell ⟨wc.heap.size, 2, none⟩ (.string t7)).setCell ⟨wc.heap.size, 3, none⟩ (.slice an7 mn7 cn7)).setCell ⟨wc.heap.size, 4, none⟩ (.slice ak7 mk7 ck7)) w.heap.size (.int .i64 k) (.int .i64 n) (.string tx) (.slice an nm.length cn) (.slice (some ⟨g, 0, none⟩) ks.length ck) ∧ FiveAt (((((w1.setCell ⟨wc.heap.size, 0, none⟩ (.int .i64 k7)).setCell ⟨wc.heap.size, 1, none⟩ (.int .i64 n7)).setCell ⟨wc.heap.size, 2, none⟩ (.string t7)).setCell ⟨wc.heap.size, 3, none⟩ (.slice an7 mn7 cn7)).setCell ⟨wc.heap.size, 4, none⟩ (.slice ak7 mk7 ck7)) (w.heap.size + 1) (.int .i64 0) (.int .i64 0) (.string ⟨#[]⟩) (.slice none 0 0) (.slice none 0 0) ∧ (∀ y, R = some y → TreeIs (((((w1.setCell ⟨wc.heap.size, 0, none⟩ (.int .i64 k7)).setCell ⟨wc.heap.size, 1, none⟩ (.int .i64 n7)).setCell ⟨wc.heap.size, 2, none⟩ (.string t7)).setCell ⟨wc.heap.size, 3, none⟩ (.slice an7 mn7 cn7)).setCell ⟨wc.heap.size, 4, none⟩ (.slice ak7 mk7 ck7)) (fun b => (S b ∧ b < w.heap.size) ∨ (w.heap.size + 2 ≤ b ∧ b ≠ wc.heap.size)) y (.agg #[.int .i64 k7, .int .i64 n7, .string t7, .slice an7 mn7 cn7, .slice ak7 mk7 ck7])) ∧ (w.heap.size + 2 ≤ wc.heap.size ∧ wc.heap.size < (((((w1.setCell ⟨wc.heap.size, 0, none⟩ (.int .i64 k7)).setCell ⟨wc.heap.size, 1, none⟩ (.int .i64 n7)).setCell ⟨wc.heap.size, 2, none⟩ (.string t7)).setCell ⟨wc.heap.size, 3, none⟩ (.slice an7 mn7 cn7)).setCell ⟨wc.heap.size, 4, none⟩ (.slice ak7 mk7 ck7)).heap.size) ∧ Below w.heap.size w (((((w1.setCell ⟨wc.heap.size, 0, none⟩ (.int .i64 k7)).setCell ⟨wc.heap.size, 1, none⟩ (.int .i64 n7)).setCell ⟨wc.heap.size, 2, none⟩ (.string t7)).setCell ⟨wc.heap.size, 3, none⟩ (.slice an7 mn7 cn7)).setCell ⟨wc.heap.size, 4, none⟩ (.slice ak7 mk7 ck7))) := ⟨HQ.1, HF.out.1.below hB8 (by omega), HF.out.2.1.below hB8 (by omega), fun y hy => tree_past (htr7 y hy) (hbb w1.heap.size) (fun b' hS _ => by rcases hS with h | h; omega; change (wc.alloc _).heap.size ≤ b' at h; rw [World.size_alloc] at h; omega) (fun b' hS => by rcases hS with h | h; exact .inl h; change (wc.alloc _).heap.size ≤ b' at h; rw [World.size_alloc] at h; exact .inr ⟨by omega, by omega⟩), ⟨by omega, Nat.lt_of_lt_of_le (by omega) (hbb 0).size⟩, hB1.trans (hB8.mono (by omega))⟩
              clear HQ hbb hB8 htr7 hb7 hB7 HS8
              go_wp2_with fail
              go_meet
              case rel => exact ⟨_, _, _, _, _, _, _, _, _, _, rfl, rfl, HG⟩
          case rest =>
            obtain ⟨b7, k7, n7, t7, an7, mn7, cn7, ak7, mk7, ck7, rfl, rfl, HG⟩ := hcut
            clear HF e0 e1 e2 e3 e4
            obtain ⟨h7, hV1, hZ1, htr7, hb7, hB1⟩ := HG.out
            cases hR : R with
            | none =>
              have HNN : Hid (remT (lst f (m' + 1 + 1)) (.mk k n tx nm ks) = none) := by show _ = _; rw [HN.out, hR]; rfl
              rw [show (none : Option Tr).isSome = false from rfl]
              have HQ := hZ1.set (.int .i64 0) (.int .i64 0) (.string ⟨#[]⟩) (.slice none 0 0) (.slice none 0 0)
              obtain ⟨⟨⟨s0, s1, s2, s3, s4⟩, _⟩, hbb⟩ := id HQ
              have HBF : Hid (Below w.heap.size w (((((wc.setCell ⟨w.heap.size + 1, 0, none⟩ (.int .i64 0)).setCell ⟨w.heap.size + 1, 1, none⟩ (.int .i64 0)).setCell ⟨w.heap.size + 1, 2, none⟩ (.string ⟨#[]⟩)).setCell ⟨w.heap.size + 1, 3, none⟩ (.slice none 0 0)).setCell ⟨w.heap.size + 1, 4, none⟩ (.slice none 0 0))) := hB1.trans ((hbb w.heap.size).below (Nat.le_refl _) (by omega))
              obtain ⟨⟨v0, v1, v2, v3, v4⟩, y0, y1, y2, y3, y4⟩ := hZ1
              clear HQ hbb h7 hV1 htr7
              go_wp2_with fail
              exact bodyPost_ret (v := .tuple #[.agg #[.int .i64 0, .int .i64 0, .string ⟨#[]⟩, .slice none 0 0, .slice none 0 0], .bool false]) (by simp [results, Tryz.results27, go_sem, s0, s1, s2, s3, s4]) rfl ⟨_, _, _, _, _, _, _, _, _, by rw [HNN.out]; rfl, fun x hx => by rw [HNN.out] at hx; simp at hx, HBF.out⟩
            | some y =>
              have HNN : Hid (remT (lst f (m' + 1 + 1)) (.mk k n tx nm ks) = some (withK (.mk k n tx nm ks) i y)) := by show _ = _; rw [HN.out, hR]; rfl
              have HTY : Hid (TreeIs wc (fun b => (S b ∧ b < w.heap.size) ∨ (w.heap.size + 2 ≤ b ∧ b ≠ b7)) y (.agg #[.int .i64 k7, .int .i64 n7, .string t7, .slice an7 mn7 cn7, .slice ak7 mk7 ck7])) := htr7 y hR
              rw [show (some y : Option Tr).isSome = true from rfl]
              have HTT : Hid (TreeIs wc (fun b => (S b ∧ b < w.heap.size) ∨ (w.heap.size + 2 ≤ b ∧ b ≠ b7)) (.mk k n tx nm ks) (.agg #[.int .i64 k, .int .i64 n, .string tx, .slice an nm.length cn, .slice (some ⟨g, 0, none⟩) ks.length ck])) := TreeIs.keep (fun b' _ hlt => hB1.block b' hlt) (fun b' hS hlt => .inl ⟨hS, hlt⟩) hB1.size _ _ HT.out.1
              obtain ⟨⟨x0, x1, x2, x3, x4⟩, _⟩ := hV1
              obtain ⟨⟨p0, p1, p2, p3, p4⟩, _⟩ := h7
              have HZ1 : Hid (FiveAt wc (w.heap.size + 1) (.int .i64 0) (.int .i64 0) (.string ⟨#[]⟩) (.slice none 0 0) (.slice none 0 0)) := hZ1
              clear htr7 hZ1 hR
              go_wp2_with fail
              refine (l3With_any _ (.mk k n tx nm ks) y _ _ i _ HTT.out HTY.out hil hkl).mono ?_
              rintro e w2 ⟨k2, n2, t2, an2, mn2, cn2, ak2, mk2, ck2, rfl, htr2, hb2⟩
              have hZ2 := HZ1.out.below hb2 (by omega)
              have hB2 : Below w.heap.size w w2 := hB1.trans (hb2.mono hB1.size)
              have HQ := hZ2.set (.int .i64 k2) (.int .i64 n2) (.string t2) (.slice an2 mn2 cn2) (.slice ak2 mk2 ck2)
              obtain ⟨⟨⟨s0, s1, s2, s3, s4⟩, _⟩, hbb⟩ := id HQ
              have HBF : Hid (Below w.heap.size w (((((w2.setCell ⟨w.heap.size + 1, 0, none⟩ (.int .i64 k2)).setCell ⟨w.heap.size + 1, 1, none⟩ (.int .i64 n2)).setCell ⟨w.heap.size + 1, 2, none⟩ (.string t2)).setCell ⟨w.heap.size + 1, 3, none⟩ (.slice an2 mn2 cn2)).setCell ⟨w.heap.size + 1, 4, none⟩ (.slice ak2 mk2 ck2))) := hB2.trans ((hbb w.heap.size).below (Nat.le_refl _) (by omega))
              have HTF : Hid (TreeIs (((((w2.setCell ⟨w.heap.size + 1, 0, none⟩ (.int .i64 k2)).setCell ⟨w.heap.size + 1, 1, none⟩ (.int .i64 n2)).setCell ⟨w.heap.size + 1, 2, none⟩ (.string t2)).setCell ⟨w.heap.size + 1, 3, none⟩ (.slice an2 mn2 cn2)).setCell ⟨w.heap.size + 1, 4, none⟩ (.slice ak2 mk2 ck2)) (fun b => S b ∨ w.heap.size ≤ b) (withK (.mk k n tx nm ks) i y) (.agg #[.int .i64 k2, .int .i64 n2, .string t2, .slice an2 mn2 cn2, .slice ak2 mk2 ck2])) := tree_past htr2 (hbb w2.heap.size) (fun b' hS _ => by rcases hS with (h | h) | h <;> omega) (fun b' hS => by rcases hS with (h | h) | h; exact .inl h.1; exact .inr (by omega); exact .inr (by omega))
              obtain ⟨⟨v0, v1, v2, v3, v4⟩, y0, y1, y2, y3, y4⟩ := hZ2
              clear HQ hbb htr2 hb2
              go_wp2_with fail
              exact bodyPost_ret (v := .tuple #[.agg #[.int .i64 k2, .int .i64 n2, .string t2, .slice an2 mn2 cn2, .slice ak2 mk2 ck2], .bool true]) (by simp [results, Tryz.results27, go_sem, s0, s1, s2, s3, s4]) rfl ⟨_, _, _, _, _, _, _, _, _, by rw [HNN.out]; rfl, fun z hz => by rw [HNN.out] at hz; obtain rfl := Option.some.inj hz; exact HTF.out, HBF.out⟩

end Go.Proofs.YtcceaadidnmdaaaGreatDoor
