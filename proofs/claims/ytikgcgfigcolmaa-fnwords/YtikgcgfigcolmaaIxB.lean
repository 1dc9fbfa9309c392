/- Lists of postings by words, in memory: each has a block of its own. No condition. -/
import Derived.Test.YtikgcgfigcolmaaIxM
import Derived.Test.YtikgcgfigcolmaaUpJ
import Derived.Test.YtikgcgfigcolmaaAp2
import Derived.Test.YtikgcgfigcolmaaKWords
namespace Go.Proofs.Ytikgcgfigcolmaa
open Go.RowKit
set_option linter.unusedVariables false

def nilV : Value := .slice none 0 0
/-- A row stays where its block does. -/
theorem OwnL.stay {α : Type} {cs : α → List Value} {T : TypeId} {wd : Nat} {w w' : World} {B : Nat} {v : Value} {l : List α} (h : OwnL cs T wd w B v l) (hb : ∀ k, v.ownBlock = some k → w'.heap[k]? = w.heap[k]?) : OwnL cs T wd w' B v l := by
  obtain ⟨h1, h2 | ⟨g, cap, cur, e, h3, h4, h5⟩⟩ := h
  · exact ⟨h1, .inl h2⟩
  · exact ⟨h1, .inr ⟨g, cap, cur, e, h3, by rw [hb g (by rw [e]; rfl)]; exact h4, h5⟩⟩
theorem OwnL.blt {α : Type} {cs : α → List Value} {T : TypeId} {wd : Nat} {w : World} {B : Nat} {v : Value} {l : List α} (h : OwnL cs T wd w B v l) {k : Nat} (hk : v.ownBlock = some k) : k < w.heap.size := (World.ownsRow.lt h k hk).2

section
variable {β γ : Type}
def insN (x : ByteArray) : List ByteArray → List ByteArray
  | [] => [x]
  | y :: r => if lessB x y = true then x :: y :: r else y :: insN x r
theorem insK_keys (p : ByteArray × β) : ∀ l : List (ByteArray × β), (insK p l).map (·.1) = insN p.1 (l.map (·.1))
  | [] => rfl
  | q :: r => by
    rw [List.map_cons, insK, insN]
    by_cases h : lessB p.1 q.1 = true
    · rw [if_pos h, if_pos h]
      rfl
    · rw [if_neg h, if_neg h, List.map_cons, insK_keys p r]
theorem setK_keys {x : ByteArray} {v : β} {u : γ} {l : List (ByteArray × β)} {m : List (ByteArray × γ)} (h : l.map (·.1) = m.map (·.1)) : (setK x v l).map (·.1) = (setK x u m).map (·.1) := by
  unfold setK
  rw [insK_keys, insK_keys]
  have e1 : (l.filter (fun p => !decide (p.1 = x))).map (·.1) = (l.map (·.1)).filter (fun y => !decide (y = x)) := by rw [List.filter_map]; rfl
  have e2 : (m.filter (fun p => !decide (p.1 = x))).map (·.1) = (m.map (·.1)).filter (fun y => !decide (y = x)) := by rw [List.filter_map]; rfl
  rw [e1, e2, h]
theorem rise_keys {l : List (ByteArray × β)} {m : List (ByteArray × γ)} (h : l.map (·.1) = m.map (·.1)) (hm : RiseK m) : RiseK l := by
  have h1 : (m.map (·.1)).Pairwise (fun a b => lessB a b = true) := List.pairwise_map.2 hm
  rw [← h] at h1
  exact List.pairwise_map.1 h1
theorem keys_at {l : List (ByteArray × β)} {m : List (ByteArray × γ)} (h : l.map (·.1) = m.map (·.1)) {i : Nat} {x : ByteArray} {u : γ} (hi : m[i]? = some (x, u)) : ∃ v, l[i]? = some (x, v) := by
  have h1 : (m.map (·.1))[i]? = some x := by rw [List.getElem?_map, hi]; rfl
  rw [← h, List.getElem?_map] at h1
  obtain ⟨p, hp, rfl⟩ := Option.map_eq_some_iff.1 h1
  exact ⟨p.2, hp⟩
theorem getD_at {l : List (ByteArray × β)} (h : RiseK l) {i : Nat} {x : ByteArray} {v z : β} (hi : l[i]? = some (x, v)) : getD x z l = v := by
  unfold getD
  rw [mem_getK h (List.mem_of_getElem? hi)]
  rfl
end

/-- Lists by words, each in a block of its own, all of S. -/
structure PL (w : World) (S : Nat → Prop) (L : List (ByteArray × Value)) (es : List DEntry) : Prop where
  keys : L.map (·.1) = es.map (·.1)
  rise : RiseK es
  own : ∀ x, OwnL poC 43 2 w 0 (getD x nilV L) (getD x [] es)
  apart : ∀ x y k, x ≠ y → (getD x nilV L).ownBlock = some k → (getD y nilV L).ownBlock ≠ some k
  blk : ∀ x k, (getD x nilV L).ownBlock = some k → S k
theorem PL.riseL {w : World} {S : Nat → Prop} {L : List (ByteArray × Value)} {es : List DEntry} (h : PL w S L es) : RiseK L := rise_keys h.keys h.rise
theorem PL.nil (w : World) (S : Nat → Prop) : PL w S [] [] := ⟨rfl, List.Pairwise.nil, fun x => OwnL.nil _ _ _ _ _, fun x y k _ h => (by cases h), fun x k h => (by cases h)⟩
theorem PL.stay {w w' : World} {S : Nat → Prop} {L : List (ByteArray × Value)} {es : List DEntry} (h : PL w S L es) (hb : ∀ x k, (getD x nilV L).ownBlock = some k → w'.heap[k]? = w.heap[k]?) : PL w' S L es :=
  ⟨h.keys, h.rise, fun x => (h.own x).stay (hb x), h.apart, h.blk⟩
theorem PL.below {w w' : World} {S : Nat → Prop} {L : List (ByteArray × Value)} {es : List DEntry} (h : PL w S L es) (hb : Below w.heap.size w w') : PL w' S L es :=
  h.stay fun x k hk => hb.block k ((h.own x).blt hk)
theorem PL.kept {w w' : World} {S S' : Nat → Prop} {L : List (ByteArray × Value)} {es : List DEntry} (h : PL w S L es) (hb : KeptO S' w w') (hs : ∀ k, S k → ¬ S' k) : PL w' S L es :=
  h.stay fun x k hk => hb.block k ((h.own x).blt hk) (hs k (h.blk x k hk))
theorem PL.mono {w : World} {S S' : Nat → Prop} {L : List (ByteArray × Value)} {es : List DEntry} (h : PL w S L es) (hs : ∀ k, k < w.heap.size → S k → S' k) : PL w S' L es :=
  ⟨h.keys, h.rise, h.own, h.apart, fun x k hk => hs k ((h.own x).blt hk) (h.blk x k hk)⟩
/-- One of them anew. -/
theorem PL.put {w w' : World} {S : Nat → Prop} {L : List (ByteArray × Value)} {es : List DEntry} (h : PL w S L es) {x : ByteArray} {v' : Value} {l' : List DPosting} (ho : OwnL poC 43 2 w' 0 v' l') (hk : KeptO (fun k => (getD x nilV L).ownBlock = some k) w w') (hm : v'.ownBlock = (getD x nilV L).ownBlock ∨ ∃ g, v'.ownBlock = some g ∧ w.heap.size ≤ g) :
    PL w' (fun k => S k ∨ w.heap.size ≤ k) (setK x v' L) (setK x l' es) := by
  have hr := h.riseL
  have hne : ∀ y k, y ≠ x → (getD y nilV L).ownBlock = some k → v'.ownBlock ≠ some k := by
    intro y k hy hk' e
    rcases hm with hm | ⟨g, hm, hg⟩
    · exact h.apart y x k hy hk' (hm ▸ e)
    · rw [hm] at e
      injection e with e
      have := (h.own y).blt hk'
      omega
  refine ⟨setK_keys h.keys, setK_rise h.rise, fun y => ?_, fun y z k hyz hy hz => ?_, fun y k hy => ?_⟩
  · rw [getD_setK hr, getD_setK h.rise]
    by_cases e : y = x
    · rw [if_pos e, if_pos e]
      exact ho
    · rw [if_neg e, if_neg e]
      exact (h.own y).stay fun k hy => hk.block k ((h.own y).blt hy) (h.apart y x k e hy)
  · rw [getD_setK hr] at hy hz
    by_cases e : y = x
    · rw [if_pos e] at hy
      rw [if_neg (fun e' => hyz (e.trans e'.symm))] at hz
      exact hne z k (fun e' => hyz (e.trans e'.symm)) hz hy
    · rw [if_neg e] at hy
      by_cases e' : z = x
      · rw [if_pos e'] at hz
        exact hne y k e hy hz
      · rw [if_neg e'] at hz
        exact h.apart y z k hyz hy hz
  · rw [getD_setK hr] at hy
    by_cases e : y = x
    · rw [if_pos e] at hy
      rcases hm with hm | ⟨g, hm, hg⟩
      · exact .inl (h.blk x k (hm ▸ hy))
      · rw [hm] at hy
        injection hy with hy
        exact .inr (by omega)
    · rw [if_neg e] at hy
      exact .inl (h.blk y k hy)

/-- An entry's cells. -/
def enC (p : ByteArray × Value) : List Value := [.string p.1, p.2]
/-- A row of entries, its lists with blocks of their own, all of S. -/
def EB (w : World) (S : Nat → Prop) (v : Value) (es : List DEntry) : Prop :=
  ∃ L, OwnL enC 85 2 w 0 v L ∧ PL w S L es ∧ (∀ k, v.ownBlock = some k → S k) ∧ ∀ x k, (getD x nilV L).ownBlock = some k → v.ownBlock ≠ some k
theorem EB.nil (w : World) (S : Nat → Prop) : EB w S (.slice none 0 0) [] := ⟨[], OwnL.nil _ _ _ _ _, PL.nil _ _, fun k h => (by cases h), fun x k h => (by cases h)⟩
theorem EB.below {w w' : World} {S : Nat → Prop} {v : Value} {es : List DEntry} (h : EB w S v es) (hb : Below w.heap.size w w') : EB w' S v es := by
  obtain ⟨L, h1, h2, h3, h4⟩ := h
  exact ⟨L, h1.below hb, h2.below hb, h3, h4⟩
theorem EB.kept {w w' : World} {S S' : Nat → Prop} {v : Value} {es : List DEntry} (h : EB w S v es) (hb : KeptO S' w w') (hs : ∀ k, S k → ¬ S' k) : EB w' S v es := by
  obtain ⟨L, h1, h2, h3, h4⟩ := h
  exact ⟨L, h1.stay fun k hk => hb.block k (h1.blt hk) (hs k (h3 k hk)), h2.kept hb hs, h3, h4⟩
theorem EB.mono {w : World} {S S' : Nat → Prop} {v : Value} {es : List DEntry} (h : EB w S v es) (hs : ∀ k, k < w.heap.size → S k → S' k) : EB w S' v es := by
  obtain ⟨L, h1, h2, h3, h4⟩ := h
  exact ⟨L, h1, h2.mono hs, fun k hk => hs k (h1.blt hk) (h3 k hk), h4⟩
theorem EB.form {w : World} {S : Nat → Prop} {v : Value} {es : List DEntry} (h : EB w S v es) : ∃ a c, v = .slice a es.length c ∧ es.length ≤ c := by
  obtain ⟨L, h1, h2, h3, h4⟩ := h
  have e : L.length = es.length := by have := congrArg List.length h2.keys; simpa using this
  obtain ⟨a, c, h5, h6⟩ := h1.form
  exact ⟨a, c, by rw [h5, e], by omega⟩
/-- A row that grew by append is data of its kind, in its own block. -/
theorem own_kRowB {α : Type} {K : Kd α} {cs : α → List Value} {T : TypeId} {w : World} {B : Nat} {a : Option Addr} {n c : Nat} {l : List α} (hw : ∀ x, (cs x).length = K.wd) (h : OwnL cs T K.wd w B (.slice a n c) l) (hl : l.length ≤ maxLen) (hk : ∀ x ∈ l, ∀ W S, K.is true W S (cs x) x) :
    (kRow K).is true w (fun k => (Value.slice a n c).ownBlock = some k) [.slice a n c] l := by
  have hcells := @World.ownsRow.cells _ _ _ _ _ _ _ h
  obtain ⟨a', c', e, hc⟩ := h.form
  obtain ⟨rfl, rfl, rfl⟩ : a = a' ∧ n = l.length ∧ c = c' := by simpa using e
  refine ⟨a, c, rfl, hl, fun _ => hc, ?_⟩
  obtain ⟨h1, ⟨e2, e0⟩ | ⟨g, cap, cur, e, h3, h4, h5⟩⟩ := h
  · exact .inl (List.eq_nil_of_length_eq_zero e0)
  · have ea : a = some ⟨g, 0, none⟩ := by injection e
    subst ea
    refine .inr ⟨g, 0, fun _ _ => False, fun i => (l[i]?.map cs).getD [], rfl, (Array.getElem?_eq_some_iff.1 h4).1, rfl, fun i x hx => ?_, fun _ _ _ h => h.elim, fun _ => ⟨fun _ _ h => h, fun _ _ _ _ _ _ h => h.elim⟩⟩
    simp only [hx, Option.map_some, Option.getD_some]
    refine ⟨hk x (List.mem_of_getElem? hx) _ _, fun j v hj => ?_⟩
    have hjn : j < K.wd := by rw [← hw x]; exact (List.getElem?_eq_some_iff.1 hj).1
    have := hcells (g := g) rfl (i * K.wd + j) v (by rw [flat_get hw l i j x hx hjn]; exact hj)
    rw [show ((⟨g, 0, none⟩ : Addr).add (i * K.wd + j)) = ⟨g, 0 + i * K.wd + j, none⟩ by unfold Addr.add; split <;> simp_all] at this
    refine ⟨this, fun _ => ?_⟩
    simp [World.frozen?, h4]
/-- What entries hold is no more than memory holds. -/
def SmallE (es : List DEntry) : Prop := es.length ≤ 2 ^ 30 ∧ ∀ p ∈ es, p.1.size ≤ maxLen ∧ p.2.length ≤ 2 ^ 30 ∧ ∀ q ∈ p.2, IntOk q.1 ∧ IntOk q.2
/-- Such a row is data of its kind. -/
theorem EB.row {w : World} {S : Nat → Prop} {a : Option Addr} {n c : Nat} {es : List DEntry} (h : EB w S (.slice a n c) es) (hs : SmallE es) : (kRow kEntry).is true w S [.slice a n c] es := by
  obtain ⟨a', c', e, hc'⟩ := h.form
  obtain ⟨rfl, rfl, rfl⟩ : a = a' ∧ n = es.length ∧ c = c' := by simpa using e
  obtain ⟨L, h1, h2, h3, h4⟩ := h
  have hrL := h2.riseL
  have eL : L.length = es.length := by have := congrArg List.length h2.keys; simpa using this
  have hcells := @World.ownsRow.cells _ _ _ _ _ _ _ h1
  refine ⟨a, c, rfl, by have := hs.1; unfold maxLen; omega, fun _ => hc', ?_⟩
  obtain ⟨_, ⟨e2, e0⟩ | ⟨g, cap, cur, e, h6, h7, h8⟩⟩ := h1
  · exact .inl (List.eq_nil_of_length_eq_zero (by omega))
  · have ea : a = some ⟨g, 0, none⟩ := by injection e
    subst ea
    refine .inr ⟨g, 0, fun i k => ∃ p, es[i]? = some p ∧ (getD p.1 nilV L).ownBlock = some k, fun i => ((L[i]?).map enC).getD [], rfl, (Array.getElem?_eq_some_iff.1 h7).1, h3 g rfl, fun i p hp => ?_, fun i k hi ⟨p, hp, hk⟩ => h2.blk _ k hk, fun _ => ⟨fun i hi ⟨p, hp, hk⟩ => h4 _ g hk rfl, fun i j k hi hj hn ⟨p, hp, hk⟩ ⟨q, hq, hk'⟩ => ?_⟩⟩
    · obtain ⟨x, l⟩ := p
      obtain ⟨u, hu⟩ := keys_at h2.keys hp
      have eu : getD x nilV L = u := getD_at hrL hu
      have el : getD x [] es = l := getD_at h2.rise hp
      have ho := h2.own x
      rw [eu, el] at ho
      obtain ⟨ua, uc, hu', _⟩ := ho.form
      subst hu'
      obtain ⟨s1, s2, s3⟩ := hs.2 (x, l) (List.mem_of_getElem? hp)
      have s2' : l.length ≤ 2 ^ 30 := s2
      simp only [hu, Option.map_some, Option.getD_some]
      refine ⟨kEntry_shut s1 (own_kRowB (K := kPosting) (fun _ => rfl) ho (by unfold maxLen; omega) (fun y hy W S => by
        obtain ⟨h9, h10⟩ := s3 y hy
        obtain ⟨y0, y1⟩ := y
        exact kPosting_shut h9 h10)) (fun k hk => ⟨(x, l), hp, by rw [eu]; exact hk⟩), fun j v hj => ?_⟩
      have hj2 : j < 2 := (List.getElem?_eq_some_iff.1 hj).1
      have := hcells (g := g) rfl (i * 2 + j) v (by rw [flat_get (cs := enC) (n := 2) (fun _ => rfl) L i j _ hu hj2]; exact hj)
      rw [show ((⟨g, 0, none⟩ : Addr).add (i * 2 + j)) = ⟨g, 0 + i * kEntry.wd + j, none⟩ by show _ = (⟨g, 0 + i * 2 + j, none⟩ : Addr); unfold Addr.add; split <;> simp_all] at this
      exact ⟨this, fun _ => by simp [World.frozen?, h7]⟩
    · obtain ⟨x, l⟩ := p
      obtain ⟨y, m⟩ := q
      have hxy : x ≠ y := by
        intro e
        subst e
        rcases Nat.lt_or_gt_of_ne hn with hlt | hlt
        · have := List.pairwise_iff_getElem.1 h2.rise i j hi hj hlt
          rw [(List.getElem?_eq_some_iff.1 hp).2, (List.getElem?_eq_some_iff.1 hq).2] at this
          exact lessB_ne this rfl
        · have := List.pairwise_iff_getElem.1 h2.rise j i hj hi hlt
          rw [(List.getElem?_eq_some_iff.1 hp).2, (List.getElem?_eq_some_iff.1 hq).2] at this
          exact lessB_ne this rfl
      exact h2.apart x y k hxy hk hk'
theorem ix_small {n : Nat} {es : List DEntry} (h : IxOk n es) (hn : n ≤ 40) (hl : es.length ≤ 2 ^ 30) : SmallE es := by
  refine ⟨hl, fun p hp => ?_⟩
  have hw := h.word p hp
  have hpo := h.post p.1
  have e : getD p.1 [] es = p.2 := by unfold getD; rw [mem_getK h.rise (x := p.1) (v := p.2) hp]; rfl
  rw [e] at hpo
  have hm := postOk_mem hpo
  have hlen : ∀ (l : List DPosting) (last : Int), postOk n last l = true → -1 ≤ last → last < n → (l.length : Int) ≤ n - 1 - last := by
    intro l
    induction l with
    | nil => intro last _ h1 h2; simp; omega
    | cons q r ih =>
      intro last h0 h1 h2
      obtain ⟨t, m⟩ := q
      rw [postOk] at h0
      simp only [Bool.and_eq_true, decide_eq_true_eq] at h0
      have := ih t h0.2 (by omega) h0.1.2.1
      simp only [List.length_cons]
      omega
  refine ⟨?_, ?_, fun q hq => ?_⟩
  · unfold isWordB isWL at hw
    simp only [decide_eq_true_eq] at hw
    have := (takeW_len 20 p.1.data.toList).1
    rw [hw.2, data_len] at this
    unfold maxLen
    omega
  · by_cases hne : p.2 = []
    · rw [hne]; simp
    · have h0 : (-1 : Int) < n := by omega
      have := hlen p.2 (-1) hpo (by omega) h0
      omega
  · have := hm q hq
    unfold IntOk
    omega
end Go.Proofs.Ytikgcgfigcolmaa
