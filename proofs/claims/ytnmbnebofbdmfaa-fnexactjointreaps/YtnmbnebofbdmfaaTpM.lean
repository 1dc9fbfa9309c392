/- Treaps, as mathematics: trees with keys in order and weights as in a heap; split, joined, cut; one shape for each row of keys. -/
import Derived.Test.YtnmbnebofbdmfaaWt
import Derived.Test.YtnmbnebofbdmfaaTpB
namespace Go.Proofs.Ytnmbnebofbdmfaa
open Go.RowKit
set_option linter.unusedVariables false

theorem tl_total : ∀ a b : List UInt8, Op.bytesLess a b = !(Op.bytesLess b a || b == a)
  | [], [] => by simp [Op.bytesLess]
  | [], _ :: _ => by simp [Op.bytesLess]
  | _ :: _, [] => by simp [Op.bytesLess]
  | x :: a, y :: b => by
    have ih := tl_total a b
    unfold Op.bytesLess
    rcases Nat.lt_trichotomy x.toNat y.toNat with h | h | h
    · have h1 : x < y := h
      have h2 : ¬ y < x := fun h' => by have : y.toNat < x.toNat := h'; omega
      have h3 : ¬ y = x := fun e => by rw [e] at h; omega
      simp [h1, h2, h3]
    · have e : x = y := UInt8.toNat_inj.1 h
      subst e
      simp [ih]
    · have h1 : y < x := h
      have h2 : ¬ x < y := fun h' => by have : x.toNat < y.toNat := h'; omega
      have h4 : ¬ x = y := fun e => by rw [e] at h; omega
      simp [h1, h2, h4]
theorem tl_trans : ∀ a b c : List UInt8, Op.bytesLess a b = true → Op.bytesLess b c = true → Op.bytesLess a c = true
  | [], [], _ => by intro h; simp [Op.bytesLess] at h
  | [], _ :: _, [] => by intro _ h; simp [Op.bytesLess] at h
  | [], _ :: _, _ :: _ => by intros; simp [Op.bytesLess]
  | _ :: _, [], _ => by intro h; simp [Op.bytesLess] at h
  | _ :: _, _ :: _, [] => by intro _ h; simp [Op.bytesLess] at h
  | x :: a, y :: b, z :: c => by
    intro h1 h2
    have ih := tl_trans a b c
    have hx : ∀ u v : UInt8, ¬ u < v → ¬ u = v → ¬ (decide (u < v) || (u == v && true)) = true := by intro u v p q; simp [p, q]
    unfold Op.bytesLess at h1 h2 ⊢
    simp only [Bool.or_eq_true, decide_eq_true_eq, Bool.and_eq_true, beq_iff_eq] at h1 h2 ⊢
    rcases h1 with h1 | ⟨rfl, h1⟩
    · rcases h2 with h2 | ⟨rfl, h2⟩
      · exact .inl (UInt8.lt_trans h1 h2)
      · exact .inl h1
    · rcases h2 with h2 | ⟨rfl, h2⟩
      · exact .inl h2
      · exact .inr ⟨rfl, ih h1 h2⟩

/-- A key is less than another one. -/
def kLt (a b : ByteArray) : Prop := Op.bytesLess a.toList b.toList = true
instance (a b : ByteArray) : Decidable (kLt a b) := inferInstanceAs (Decidable (_ = true))
theorem toL_inj {a b : ByteArray} (h : a.toList = b.toList) : a = b := by
  rw [ByteArray.toList_eq, ByteArray.toList_eq] at h
  exact ByteArray.ext (Array.toList_inj.1 h)
theorem kLt.trans {a b c : ByteArray} (h : kLt a b) (k : kLt b c) : kLt a c := tl_trans _ _ _ h k
theorem kLt.irr (a : ByteArray) : ¬ kLt a a := fun h => by
  unfold kLt at h
  have := tl_total a.toList a.toList
  rw [h] at this
  simp at this
theorem kLt.asym {a b : ByteArray} (h : kLt a b) : ¬ kLt b a := fun k => kLt.irr _ (h.trans k)
theorem kLt_tri (a b : ByteArray) : kLt a b ∨ a = b ∨ kLt b a := by
  have h := tl_total a.toList b.toList
  by_cases h1 : kLt a b
  · exact .inl h1
  · by_cases h2 : kLt b a
    · exact .inr (.inr h2)
    · refine .inr (.inl (toL_inj ?_))
      unfold kLt at h1 h2
      rw [Bool.not_eq_true] at h1 h2
      rw [h1, h2] at h
      exact (by simpa using h.symm : b.toList = a.toList).symm
theorem kLt.ne {a b : ByteArray} (h : kLt a b) : a ≠ b := fun e => by rw [e] at h; exact kLt.irr _ h

/-- One key stands above another one. -/
def Ab (a b : ByteArray) : Prop := wt b < wt a ∨ (wt a = wt b ∧ kLt a b)
theorem Ab.trans {a b c : ByteArray} (h : Ab a b) (k : Ab b c) : Ab a c := by
  unfold Ab at *
  rcases h with h | ⟨h, h'⟩
  · rcases k with k | ⟨k, k'⟩
    · exact .inl (by omega)
    · exact .inl (by omega)
  · rcases k with k | ⟨k, k'⟩
    · exact .inl (by omega)
    · exact .inr ⟨by omega, h'.trans k'⟩
theorem Ab.asym {a b : ByteArray} (h : Ab a b) : ¬ Ab b a := fun k => by
  have := h.trans k
  rcases this with h | ⟨_, h⟩
  · omega
  · exact kLt.irr _ h

abbrev Pr := ByteArray × ByteArray

/-- A tree whose limbs lie in blocks of their own. -/
inductive Bt where
  | nil
  | node (b : Nat) (k v : ByteArray) (l r : Bt)

def Bt.ino : Bt → List Pr
  | .nil => []
  | .node _ k v l r => l.ino ++ (k, v) :: r.ino
def Bt.bs : Bt → List Nat
  | .nil => []
  | .node b _ _ l r => b :: (l.bs ++ r.bs)
def Bt.sz : Bt → Nat
  | .nil => 0
  | .node _ _ _ l r => 1 + l.sz + r.sz
/-- The same without the blocks. -/
def Bt.sh : Bt → Bt
  | .nil => .nil
  | .node _ k v l r => .node 0 k v l.sh r.sh
theorem Bt.ino_len (t : Bt) : t.ino.length = t.sz := by
  induction t with
  | nil => rfl
  | node b k v l r ihl ihr => simp [Bt.ino, Bt.sz, ihl, ihr]; omega
theorem Bt.sz_sh (t : Bt) : t.sh.sz = t.sz := by
  induction t with
  | nil => rfl
  | node b k v l r ihl ihr => simp [Bt.sh, Bt.sz, ihl, ihr]

/-- Keys rise. -/
def Srt (l : List Pr) : Prop := l.Pairwise (fun a b => kLt a.1 b.1)
/-- The heavier is above. -/
def Bt.heap : Bt → Prop
  | .nil => True
  | .node _ k _ l r => (∀ p ∈ l.ino, Ab k p.1) ∧ (∀ p ∈ r.ino, Ab k p.1) ∧ l.heap ∧ r.heap
def Bt.ok (t : Bt) : Prop := Srt t.ino ∧ t.heap

theorem srt_node {a b : List Pr} {k v : ByteArray} : Srt (a ++ (k, v) :: b) ↔ Srt a ∧ Srt b ∧ (∀ p ∈ a, kLt p.1 k) ∧ (∀ p ∈ b, kLt k p.1) := by
  unfold Srt
  rw [List.pairwise_append, List.pairwise_cons]
  constructor
  · rintro ⟨h1, ⟨h2, h3⟩, h4⟩
    exact ⟨h1, h3, fun p hp => h4 p hp (k, v) (by simp), h2⟩
  · rintro ⟨h1, h2, h3, h4⟩
    refine ⟨h1, ⟨h4, h2⟩, fun p hp q hq => ?_⟩
    rw [List.mem_cons] at hq
    rcases hq with rfl | hq
    · exact h3 p hp
    · exact (h3 p hp).trans (h4 q hq)

/-- What has keys below a key, and the others. -/
def Bt.split (key : ByteArray) : Bt → Bt × Bt
  | .nil => (.nil, .nil)
  | .node b k v l r => if kLt k key then (.node b k v l (r.split key).1, (r.split key).2) else ((l.split key).1, .node b k v (l.split key).2 r)
theorem split_ino (key : ByteArray) (t : Bt) : (t.split key).1.ino ++ (t.split key).2.ino = t.ino := by
  induction t with
  | nil => rfl
  | node b k v l r ihl ihr =>
    rw [Bt.split]
    split
    · simp only [Bt.ino]
      rw [List.append_assoc, List.cons_append, ihr]
    · simp only [Bt.ino]
      rw [← List.append_assoc, ihl]
theorem split_bs (key : ByteArray) (t : Bt) : ((t.split key).1.bs ++ (t.split key).2.bs).Perm t.bs := by
  induction t with
  | nil => exact List.Perm.refl _
  | node b k v l r ihl ihr =>
    rw [Bt.split]
    split
    · simp only [Bt.bs]
      rw [List.cons_append, List.append_assoc]
      exact (ihr.append_left _).cons _
    · simp only [Bt.bs]
      refine (List.perm_middle).trans (List.Perm.cons _ ?_)
      rw [← List.append_assoc]
      exact ihl.append_right _
theorem split_heap (key : ByteArray) (t : Bt) (h : t.heap) : (t.split key).1.heap ∧ (t.split key).2.heap := by
  induction t with
  | nil => exact ⟨trivial, trivial⟩
  | node b k v l r ihl ihr =>
    obtain ⟨h1, h2, h3, h4⟩ := h
    rw [Bt.split]
    split
    · refine ⟨⟨h1, fun p hp => h2 p ?_, h3, (ihr h4).1⟩, (ihr h4).2⟩
      rw [← split_ino key r]; simp [hp]
    · refine ⟨(ihl h3).1, ⟨fun p hp => h1 p ?_, h2, (ihl h3).2, h4⟩⟩
      rw [← split_ino key l]; simp [hp]
theorem split_keys (key : ByteArray) (t : Bt) (h : Srt t.ino) : (∀ p ∈ (t.split key).1.ino, kLt p.1 key) ∧ (∀ p ∈ (t.split key).2.ino, ¬ kLt p.1 key) := by
  induction t with
  | nil => exact ⟨by simp [Bt.split, Bt.ino], by simp [Bt.split, Bt.ino]⟩
  | node b k v l r ihl ihr =>
    rw [Bt.ino, srt_node] at h
    obtain ⟨s1, s2, s3, s4⟩ := h
    rw [Bt.split]
    split
    · rename_i hk
      refine ⟨fun p hp => ?_, (ihr s2).2⟩
      simp only [Bt.ino, List.mem_append, List.mem_cons] at hp
      rcases hp with hp | rfl | hp
      · exact (s3 p hp).trans hk
      · exact hk
      · exact (ihr s2).1 p hp
    · rename_i hk
      refine ⟨(ihl s1).1, fun p hp => ?_⟩
      simp only [Bt.ino, List.mem_append, List.mem_cons] at hp
      rcases hp with hp | rfl | hp
      · exact (ihl s1).2 p hp
      · exact hk
      · exact fun h => hk ((s4 p hp).trans h)

/-- Two trees, the one below the other. -/
def Bt.join : Bt → Bt → Bt
  | .nil, h => h
  | .node b k v l r, .nil => .node b k v l r
  | .node b k v l r, .node b' k' v' l' r' => if wt k' ≤ wt k then .node b k v l (Bt.join r (.node b' k' v' l' r')) else .node b' k' v' (Bt.join (.node b k v l r) l') r'
termination_by s t => s.sz + t.sz
decreasing_by all_goals simp [Bt.sz]; omega
theorem join_nil (h : Bt) : Bt.join .nil h = h := by rw [Bt.join]
theorem join_nil' (h : Bt) : Bt.join h .nil = h := by cases h <;> rw [Bt.join]
theorem join_ind {P : Bt → Bt → Prop} (h1 : ∀ t, P .nil t) (h2 : ∀ b k v l r, P (.node b k v l r) .nil)
    (h3 : ∀ b k v l r b' k' v' l' r', wt k' ≤ wt k → P r (.node b' k' v' l' r') → P (.node b k v l r) (.node b' k' v' l' r'))
    (h4 : ∀ b k v l r b' k' v' l' r', ¬ wt k' ≤ wt k → P (.node b k v l r) l' → P (.node b k v l r) (.node b' k' v' l' r')) : ∀ s t, P s t
  | .nil, t => h1 t
  | .node b k v l r, .nil => h2 b k v l r
  | .node b k v l r, .node b' k' v' l' r' =>
    if h : wt k' ≤ wt k then h3 _ _ _ _ _ _ _ _ _ _ h (join_ind h1 h2 h3 h4 r (.node b' k' v' l' r')) else h4 _ _ _ _ _ _ _ _ _ _ h (join_ind h1 h2 h3 h4 (.node b k v l r) l')
termination_by s t => s.sz + t.sz
decreasing_by all_goals simp [Bt.sz]; omega
theorem join_ino (s t : Bt) : (Bt.join s t).ino = s.ino ++ t.ino := by
  refine join_ind (P := fun s t => (Bt.join s t).ino = s.ino ++ t.ino) ?_ ?_ ?_ ?_ s t
  · intro t; rw [join_nil]; rfl
  · intro b k v l r; rw [join_nil']; simp [Bt.ino]
  · intro b k v l r b' k' v' l' r' h ih
    rw [Bt.join, if_pos h, Bt.ino, ih]
    simp [Bt.ino]
  · intro b k v l r b' k' v' l' r' h ih
    rw [Bt.join, if_neg h, Bt.ino, ih]
    simp [Bt.ino]
theorem join_bs (s t : Bt) : (Bt.join s t).bs.Perm (s.bs ++ t.bs) := by
  refine join_ind (P := fun s t => (Bt.join s t).bs.Perm (s.bs ++ t.bs)) ?_ ?_ ?_ ?_ s t
  · intro t; rw [join_nil]; exact List.Perm.refl _
  · intro b k v l r; rw [join_nil']; simp [Bt.bs]
  · intro b k v l r b' k' v' l' r' h ih
    rw [Bt.join, if_pos h, Bt.bs]
    simp only [Bt.bs, List.cons_append, List.append_assoc] at ih ⊢
    exact List.Perm.cons _ (ih.append_left _)
  · intro b k v l r b' k' v' l' r' h ih
    rw [Bt.join, if_neg h, Bt.bs]
    have e : (Bt.node b k v l r).bs ++ (Bt.node b' k' v' l' r').bs = (Bt.node b k v l r).bs ++ b' :: (l'.bs ++ r'.bs) := rfl
    rw [e]
    refine List.Perm.trans ?_ List.perm_middle.symm
    refine List.Perm.cons _ ?_
    rw [← List.append_assoc]
    exact ih.append_right _
theorem join_heap (s t : Bt) : s.heap → t.heap → (∀ p ∈ s.ino, ∀ q ∈ t.ino, kLt p.1 q.1) → (Bt.join s t).heap := by
  refine join_ind (P := fun s t => s.heap → t.heap → (∀ p ∈ s.ino, ∀ q ∈ t.ino, kLt p.1 q.1) → (Bt.join s t).heap) ?_ ?_ ?_ ?_ s t
  · intro t _ h _; rw [join_nil]; exact h
  · intro b k v l r h _ _; rw [join_nil']; exact h
  · intro b k v l r b' k' v' l' r' h ih hs ht hl
    rw [Bt.join, if_pos h]
    obtain ⟨s1, s2, s3, s4⟩ := hs
    have hk : Ab k k' := by
      have hkk : kLt k k' := hl (k, v) (by simp [Bt.ino]) (k', v') (by simp [Bt.ino])
      rcases Int.lt_or_eq_of_le h with h | h
      · exact .inl h
      · exact .inr ⟨h.symm, hkk⟩
    refine ⟨s1, fun p hp => ?_, s3, ih s4 ht (fun p hp q hq => hl p (by simp [Bt.ino, hp]) q hq)⟩
    rw [join_ino, List.mem_append] at hp
    rcases hp with hp | hp
    · exact s2 p hp
    · simp only [Bt.ino, List.mem_append, List.mem_cons] at hp
      rcases hp with hp | rfl | hp
      · exact hk.trans (ht.1 p hp)
      · exact hk
      · exact hk.trans (ht.2.1 p hp)
  · intro b k v l r b' k' v' l' r' h ih hs ht hl
    rw [Bt.join, if_neg h]
    obtain ⟨t1, t2, t3, t4⟩ := ht
    have hk : Ab k' k := .inl (by omega)
    refine ⟨fun p hp => ?_, t2, ih hs t3 (fun p hp q hq => hl p hp q (by simp [Bt.ino, hq])), t4⟩
    rw [join_ino, List.mem_append] at hp
    rcases hp with hp | hp
    · simp only [Bt.ino, List.mem_append, List.mem_cons] at hp
      rcases hp with hp | rfl | hp
      · exact hk.trans (hs.1 p hp)
      · exact hk
      · exact hk.trans (hs.2.1 p hp)
    · exact t1 p hp

/-- Without a key. -/
def Bt.cut (key : ByteArray) : Bt → Bt
  | .nil => .nil
  | .node b k v l r => if kLt key k then .node b k v (l.cut key) r else if kLt k key then .node b k v l (r.cut key) else Bt.join l r
theorem filter_all {l : List Pr} {key : ByteArray} (h : ∀ p ∈ l, p.1 ≠ key) : l.filter (fun p => decide (p.1 ≠ key)) = l := by
  rw [List.filter_eq_self]
  intro p hp
  simpa using h p hp
theorem cut_ino (key : ByteArray) (t : Bt) (h : Srt t.ino) : (t.cut key).ino = t.ino.filter (fun p => decide (p.1 ≠ key)) := by
  induction t with
  | nil => rfl
  | node b k v l r ihl ihr =>
    rw [Bt.ino, srt_node] at h
    obtain ⟨s1, s2, s3, s4⟩ := h
    rw [Bt.cut]
    split
    · rename_i hk
      rw [Bt.ino, Bt.ino, List.filter_append, List.filter_cons, if_pos (by simpa using hk.ne.symm), ihl s1, filter_all (l := r.ino) (fun p hp => (hk.trans (s4 p hp)).ne.symm)]
    · split
      · rename_i hk
        rw [Bt.ino, Bt.ino, List.filter_append, List.filter_cons, if_pos (by simpa using hk.ne), ihr s2, filter_all (l := l.ino) (fun p hp => ((s3 p hp).trans hk).ne)]
      · rename_i h1 h2
        obtain rfl : k = key := by
          rcases kLt_tri k key with h | h | h
          · exact absurd h h2
          · exact h
          · exact absurd h h1
        rw [join_ino, Bt.ino, List.filter_append, List.filter_cons, if_neg (by simp), filter_all (l := l.ino) (fun p hp => (s3 p hp).ne), filter_all (l := r.ino) (fun p hp => (s4 p hp).ne.symm)]
theorem cut_sub (key : ByteArray) (t : Bt) (p : Pr) (hp : p ∈ (t.cut key).ino) : p ∈ t.ino := by
  induction t with
  | nil => exact hp
  | node b k v l r ihl ihr =>
    rw [Bt.cut] at hp
    split at hp
    · simp only [Bt.ino, List.mem_append, List.mem_cons] at hp ⊢
      rcases hp with hp | hp
      · exact .inl (ihl hp)
      · exact .inr hp
    · split at hp
      · simp only [Bt.ino, List.mem_append, List.mem_cons] at hp ⊢
        rcases hp with hp | hp | hp
        · exact .inl hp
        · exact .inr (.inl hp)
        · exact .inr (.inr (ihr hp))
      · rw [join_ino, List.mem_append] at hp
        simp only [Bt.ino, List.mem_append, List.mem_cons]
        exact hp.imp id .inr
theorem cut_heap (key : ByteArray) (t : Bt) (hs : Srt t.ino) (h : t.heap) : (t.cut key).heap := by
  induction t with
  | nil => trivial
  | node b k v l r ihl ihr =>
    rw [Bt.ino, srt_node] at hs
    obtain ⟨s1, s2, s3, s4⟩ := hs
    obtain ⟨h1, h2, h3, h4⟩ := h
    rw [Bt.cut]
    split
    · exact ⟨fun p hp => h1 p (cut_sub _ _ p hp), h2, ihl s1 h3, h4⟩
    · split
      · exact ⟨h1, fun p hp => h2 p (cut_sub _ _ p hp), h3, ihr s2 h4⟩
      · exact join_heap _ _ h3 h4 (fun p hp q hq => (s3 p hp).trans (s4 q hq))
theorem cut_bs (key : ByteArray) (t : Bt) : ∃ d, (d ++ (t.cut key).bs).Perm t.bs := by
  induction t with
  | nil => exact ⟨[], List.Perm.refl _⟩
  | node b k v l r ihl ihr =>
    rw [Bt.cut]
    split
    · obtain ⟨d, hd⟩ := ihl
      refine ⟨d, List.perm_middle.trans (List.Perm.cons _ ?_)⟩
      rw [← List.append_assoc]
      exact hd.append_right _
    · split
      · obtain ⟨d, hd⟩ := ihr
        refine ⟨d, List.perm_middle.trans (List.Perm.cons _ ?_)⟩
        rw [← List.append_assoc]
        refine ((List.perm_append_comm).append_right _).trans ?_
        rw [List.append_assoc]
        exact hd.append_left _
      · exact ⟨[b], List.Perm.cons _ (join_bs l r)⟩

/-- A pair put among others that rise. -/
def insP (l : List Pr) (p : Pr) : List Pr := l.filter (fun q => decide (kLt q.1 p.1)) ++ p :: l.filter (fun q => decide (kLt p.1 q.1))
def Bt.put (t : Bt) (b : Nat) (k v : ByteArray) : Bt := Bt.join (Bt.join ((t.cut k).split k).1 (.node b k v .nil .nil)) ((t.cut k).split k).2
theorem srt_filter {l : List Pr} (h : Srt l) (f : Pr → Bool) : Srt (l.filter f) := List.Pairwise.sublist List.filter_sublist h
theorem put_ino (t : Bt) (b : Nat) (k v : ByteArray) (h : Srt t.ino) : (t.put b k v).ino = insP t.ino (k, v) := by
  have hc := cut_ino k t h
  have hcs : Srt (t.cut k).ino := by rw [hc]; exact srt_filter h _
  have hk := split_keys k (t.cut k) hcs
  have hi := split_ino k (t.cut k)
  rw [hc] at hi
  have hm : ∀ p ∈ ((t.cut k).split k).2.ino, kLt k p.1 := fun p hp => by
    have hne : p.1 ≠ k := by
      have : p ∈ t.ino.filter (fun p => decide (p.1 ≠ k)) := by rw [← hi]; simp [hp]
      simpa using (List.mem_filter.1 this).2
    rcases kLt_tri p.1 k with h | h | h
    · exact absurd h (hk.2 p hp)
    · exact absurd h hne
    · exact h
  have f1 : t.ino.filter (fun q => decide (kLt q.1 k)) = ((t.cut k).split k).1.ino := by
    have : (t.ino.filter (fun p => decide (p.1 ≠ k))).filter (fun q => decide (kLt q.1 k)) = t.ino.filter (fun q => decide (kLt q.1 k)) := by
      rw [List.filter_filter]
      refine List.filter_congr fun q _ => ?_
      by_cases hq : kLt q.1 k
      · simp [hq, hq.ne]
      · simp [hq]
    rw [← this, ← hi, List.filter_append]
    rw [List.filter_eq_self.2 (fun q hq => by simpa using hk.1 q hq), List.filter_eq_nil_iff.2 (fun q hq => by simpa using hk.2 q hq), List.append_nil]
  have f2 : t.ino.filter (fun q => decide (kLt k q.1)) = ((t.cut k).split k).2.ino := by
    have : (t.ino.filter (fun p => decide (p.1 ≠ k))).filter (fun q => decide (kLt k q.1)) = t.ino.filter (fun q => decide (kLt k q.1)) := by
      rw [List.filter_filter]
      refine List.filter_congr fun q _ => ?_
      by_cases hq : kLt k q.1
      · simp [hq, hq.ne.symm]
      · simp [hq]
    rw [← this, ← hi, List.filter_append]
    rw [List.filter_eq_nil_iff.2 (fun q hq => by simpa using (hk.1 q hq).asym), List.filter_eq_self.2 (fun q hq => by simpa using hm q hq), List.nil_append]
  unfold Bt.put insP
  rw [join_ino, join_ino, f1, f2]
  simp [Bt.ino]
theorem srt_insP {l : List Pr} (h : Srt l) (p : Pr) : Srt (insP l p) := by
  obtain ⟨k, v⟩ := p
  unfold insP
  rw [srt_node]
  refine ⟨srt_filter h _, srt_filter h _, fun q hq => ?_, fun q hq => ?_⟩
  · simpa using (List.mem_filter.1 hq).2
  · simpa using (List.mem_filter.1 hq).2
theorem put_ok (t : Bt) (b : Nat) (k v : ByteArray) (h : t.ok) : (t.put b k v).ok := by
  have hs : Srt (t.put b k v).ino := by rw [put_ino t b k v h.1]; exact srt_insP h.1 _
  refine ⟨hs, ?_⟩
  have hcs : Srt (t.cut k).ino := by rw [cut_ino k t h.1]; exact srt_filter h.1 _
  have hh := split_heap k (t.cut k) (cut_heap k t h.1 h.2)
  have hk := split_keys k (t.cut k) hcs
  have hs' := hs
  unfold Bt.put at hs' ⊢
  rw [join_ino, join_ino] at hs'
  have hs2 : Srt (((t.cut k).split k).1.ino ++ (k, v) :: ((t.cut k).split k).2.ino) := by simpa [Bt.ino] using hs'
  rw [srt_node] at hs2
  refine join_heap _ _ (join_heap _ _ hh.1 ⟨by simp [Bt.ino], by simp [Bt.ino], trivial, trivial⟩ ?_) hh.2 ?_
  · intro p hp q hq
    simp [Bt.ino] at hq
    subst hq
    exact hs2.2.2.1 p hp
  · intro p hp q hq
    rw [join_ino, List.mem_append] at hp
    rcases hp with hp | hp
    · exact (hs2.2.2.1 p hp).trans (hs2.2.2.2 q hq)
    · simp [Bt.ino] at hp
      subst hp
      exact hs2.2.2.2 q hq
theorem put_bs (t : Bt) (b : Nat) (k v : ByteArray) (x : Nat) (hx : x ∈ (t.put b k v).bs) : x = b ∨ x ∈ t.bs := by
  unfold Bt.put at hx
  obtain ⟨d, hd⟩ := cut_bs k t
  rw [(join_bs _ _).mem_iff, List.mem_append, (join_bs _ _).mem_iff, List.mem_append] at hx
  have hin : ∀ x, x ∈ ((t.cut k).split k).1.bs ∨ x ∈ ((t.cut k).split k).2.bs → x ∈ t.bs := fun x h => by
    rw [← hd.mem_iff, List.mem_append]
    exact .inr ((split_bs k (t.cut k)).mem_iff.1 (List.mem_append.2 h))
  rcases hx with (hx | hx) | hx
  · exact .inr (hin x (.inl hx))
  · simp [Bt.bs] at hx
    exact .inl hx
  · exact .inr (hin x (.inr hx))

/-- Two rows that rise and have the same pairs are the same. -/
theorem srt_same : ∀ a b : List Pr, Srt a → Srt b → (∀ p, p ∈ a ↔ p ∈ b) → a = b
  | [], [], _, _, _ => rfl
  | [], x :: b, _, _, h => by have := (h x).2 (by simp); simp at this
  | x :: a, [], _, _, h => by have := (h x).1 (by simp); simp at this
  | x :: a, y :: b, ha, hb, h => by
    unfold Srt at ha hb
    rw [List.pairwise_cons] at ha hb
    have e : x = y := by
      have h1 := (h x).1 (by simp)
      have h2 := (h y).2 (by simp)
      rw [List.mem_cons] at h1 h2
      rcases h1 with h1 | h1
      · exact h1
      · rcases h2 with h2 | h2
        · exact h2.symm
        · exact absurd (hb.1 x h1) (ha.1 y h2).asym
    subst e
    rw [srt_same a b ha.2 hb.2 (fun p => ?_)]
    constructor
    · intro hp
      have := (h p).1 (by simp [hp])
      rw [List.mem_cons] at this
      rcases this with rfl | this
      · exact absurd (ha.1 p hp) (kLt.irr _)
      · exact this
    · intro hp
      have := (h p).2 (by simp [hp])
      rw [List.mem_cons] at this
      rcases this with rfl | this
      · exact absurd (hb.1 p hp) (kLt.irr _)
      · exact this
/-- There is one shape for each row of keys. -/
theorem one_shape : ∀ s t : Bt, s.ok → t.ok → s.ino = t.ino → s.sh = t.sh
  | .nil, .nil, _, _, _ => rfl
  | .nil, .node b k v l r, _, _, h => by have := congrArg List.length h; simp [Bt.ino] at this
  | .node b k v l r, .nil, _, _, h => by have := congrArg List.length h; simp [Bt.ino] at this
  | .node b k v l r, .node b' k' v' l' r', hs, ht, h => by
    have hs1 := hs.1
    have ht1 := ht.1
    rw [Bt.ino] at hs1
    rw [Bt.ino] at ht1
    rw [Bt.ino, Bt.ino] at h
    have hs2 := srt_node.1 hs1
    have ht2 := srt_node.1 ht1
    obtain ⟨_, s1, s2, s3⟩ := hs
    obtain ⟨_, t1, t2, t3⟩ := ht
    have ek : k = k' := by
      have m1 : (k, v) ∈ l'.ino ++ (k', v') :: r'.ino := by rw [← h]; simp
      have m2 : (k', v') ∈ l.ino ++ (k, v) :: r.ino := by rw [h]; simp
      have key : ∀ {a b : List Pr} {k v k' v' : ByteArray}, (∀ p ∈ a, Ab k' p.1) → (∀ p ∈ b, Ab k' p.1) → (k, v) ∈ a ++ (k', v') :: b → k = k' ∨ Ab k' k := by
        intro a b k v k' v' ha hb hm
        rw [List.mem_append, List.mem_cons] at hm
        rcases hm with hm | hm | hm
        · exact .inr (ha _ hm)
        · exact .inl (by injection hm)
        · exact .inr (hb _ hm)
      rcases key t1 t2 m1 with e | e
      · exact e
      · rcases key s1 s2 m2 with f | f
        · exact f.symm
        · exact absurd e f.asym
    subst ek
    have f1 : ∀ {a b : List Pr} {k v : ByteArray}, Srt (a ++ (k, v) :: b) → (a ++ (k, v) :: b).filter (fun q => decide (kLt q.1 k)) = a ∧ (a ++ (k, v) :: b).filter (fun q => decide (kLt k q.1)) = b ∧ (a ++ (k, v) :: b).filter (fun q => decide (q.1 = k)) = [(k, v)] := by
      intro a b k v hs
      obtain ⟨_, _, h3, h4⟩ := srt_node.1 hs
      refine ⟨?_, ?_, ?_⟩
      · rw [List.filter_append, List.filter_cons, if_neg (by simpa using kLt.irr k), List.filter_eq_self.2 (fun q hq => by simpa using h3 q hq), List.filter_eq_nil_iff.2 (fun q hq => by simpa using (h4 q hq).asym), List.append_nil]
      · rw [List.filter_append, List.filter_cons, if_neg (by simpa using kLt.irr k), List.filter_eq_nil_iff.2 (fun q hq => by simpa using (h3 q hq).asym), List.filter_eq_self.2 (fun q hq => by simpa using h4 q hq), List.nil_append]
      · rw [List.filter_append, List.filter_cons, if_pos (by simp), List.filter_eq_nil_iff.2 (fun q hq => by simpa using (h3 q hq).ne), List.filter_eq_nil_iff.2 (fun q hq => by simpa using (h4 q hq).ne.symm), List.nil_append]
    have e1 := (f1 hs1).1
    have e2 := (f1 hs1).2.1
    have e3 := (f1 hs1).2.2
    rw [h] at e1 e2 e3
    rw [(f1 ht1).1] at e1
    rw [(f1 ht1).2.1] at e2
    rw [(f1 ht1).2.2] at e3
    obtain rfl : v = v' := by simpa using e3.symm
    rw [Bt.sh, Bt.sh, one_shape l l' ⟨hs2.1, s3.1⟩ ⟨ht2.1, t3.1⟩ e1.symm, one_shape r r' ⟨hs2.2.1, s3.2⟩ ⟨ht2.2.1, t3.2⟩ e2.symm]

/-- The number of the root. -/
def Bt.top : Bt → Nat → Int
  | .nil, _ => -1
  | .node .., s => s
/-- The limbs of a tree, told from s on. -/
def Bt.limbs : Bt → Nat → List Lb
  | .nil, _ => []
  | .node _ k v l r, s => ⟨k, v, l.top (s + 1), r.top (s + 1 + l.sz)⟩ :: (l.limbs (s + 1) ++ r.limbs (s + 1 + l.sz))
theorem Bt.limbs_len (t : Bt) : ∀ s, (t.limbs s).length = t.sz := by
  induction t with
  | nil => intro s; rfl
  | node b k v l r ihl ihr => intro s; simp [Bt.limbs, Bt.sz, ihl, ihr]; omega
theorem Bt.top_sh (t : Bt) (s : Nat) : t.sh.top s = t.top s := by cases t <;> rfl
theorem Bt.limbs_sh (t : Bt) : ∀ s, t.sh.limbs s = t.limbs s := by
  induction t with
  | nil => intro s; rfl
  | node b k v l r ihl ihr => intro s; simp [Bt.sh, Bt.limbs, ihl, ihr, Bt.top_sh, Bt.sz_sh]
theorem Bt.limbs_kv (t : Bt) (p : Pr) : ∀ s, p ∈ (t.limbs s).map (fun x => (x.key, x.val)) ↔ p ∈ t.ino := by
  induction t with
  | nil => intro s; rfl
  | node b k v l r ihl ihr =>
    intro s
    simp only [Bt.limbs, Bt.ino, List.map_cons, List.map_append, List.mem_cons, List.mem_append, ihl, ihr]
    constructor
    · rintro (h | h | h)
      · exact .inr (.inl h)
      · exact .inl h
      · exact .inr (.inr h)
    · rintro (h | h | h)
      · exact .inr (.inl h)
      · exact .inl h
      · exact .inr (.inr h)
theorem foldP_srt : ∀ (q l : List Pr), Srt l → Srt (q.foldl insP l)
  | [], _, h => h
  | p :: q, l, h => foldP_srt q _ (srt_insP h p)
theorem Srt.uniq {l : List Pr} (h : Srt l) {a b : Pr} (ha : a ∈ l) (hb : b ∈ l) (e : a.1 = b.1) : a = b := by
  induction l with
  | nil => simp at ha
  | cons x l ih =>
    unfold Srt at h
    rw [List.pairwise_cons] at h
    rw [List.mem_cons] at ha hb
    rcases ha with rfl | ha
    · rcases hb with rfl | hb
      · rfl
      · exact absurd e (h.1 b hb).ne
    · rcases hb with rfl | hb
      · exact absurd e.symm (h.1 a ha).ne
      · exact ih h.2 ha hb
/-- Pairs put one by one, all from one row that rises: the ones that are there. -/
theorem foldP_mem {L : List Pr} (hL : Srt L) (p : Pr) : ∀ (q l : List Pr), (∀ x ∈ q, x ∈ L) → (∀ x ∈ l, x ∈ L) → (p ∈ q.foldl insP l ↔ p ∈ l ∨ p ∈ q)
  | [], l, _, _ => by simp
  | x :: q, l, hq, hl => by
    have hx : x ∈ L := hq x (by simp)
    have hi : ∀ y, y ∈ insP l x ↔ y ∈ l ∨ y = x := fun y => by
      unfold insP
      rw [List.mem_append, List.mem_cons, List.mem_filter, List.mem_filter]
      simp only [decide_eq_true_eq]
      constructor
      · rintro (⟨h, _⟩ | rfl | ⟨h, _⟩)
        · exact .inl h
        · exact .inr rfl
        · exact .inl h
      · rintro (h | rfl)
        · rcases kLt_tri y.1 x.1 with e | e | e
          · exact .inl ⟨h, e⟩
          · exact .inr (.inl (hL.uniq (hl y h) hx e))
          · exact .inr (.inr ⟨h, e⟩)
        · exact .inr (.inl rfl)
    rw [List.foldl_cons, foldP_mem hL p q _ (fun y hy => hq y (by simp [hy])) (fun y hy => ?_), hi, List.mem_cons]
    · constructor
      · rintro ((h | h) | h)
        · exact .inl h
        · exact .inr (.inl h)
        · exact .inr (.inr h)
      · rintro (h | h | h)
        · exact .inl (.inl h)
        · exact .inl (.inr h)
        · exact .inr h
    · rcases (hi y).1 hy with h | rfl
      · exact hl y h
      · exact hx

/-- A key and a value as said. -/
def entryB (k v : ByteArray) : Bool := decide (0 < k.size) && decide (k.size ≤ 40) && decide (v.size ≤ 60)
def kvs (L : List Lb) : List Pr := L.map (fun x => (x.key, x.val))
/-- These limbs are a good treap. -/
def GoodL (L : List Lb) : Prop := L.length ≤ 60 ∧ (∀ x ∈ L, entryB x.key x.val = true) ∧ ∃ T : Bt, T.ok ∧ T.limbs 0 = L
/-- The tree that is grown of a row's pairs has its limbs where the row is a good treap. -/
theorem grown_good {L : List Lb} {T : Bt} (hT : T.ok) (hi : T.ino = (kvs L).foldl insP []) (h : ∃ S : Bt, S.ok ∧ S.limbs 0 = L) : T.limbs 0 = L := by
  obtain ⟨S, hS, rfl⟩ := h
  have hk : ∀ p, p ∈ kvs (S.limbs 0) ↔ p ∈ S.ino := fun p => Bt.limbs_kv S p 0
  have e : T.ino = S.ino := by
    refine srt_same _ _ hT.1 hS.1 fun p => ?_
    rw [hi, foldP_mem hS.1 p _ _ (fun x hx => (hk x).1 hx) (fun x hx => by simp at hx), hk]
    simp
  have := one_shape T S hT hS e
  rw [← Bt.limbs_sh T, ← Bt.limbs_sh S, this]
/-- A row of pairs that rise has its tree. -/
theorem tree_of_row : ∀ l : List Pr, Srt l → ∃ T : Bt, T.ok ∧ T.ino = l
  | [], _ => ⟨.nil, ⟨List.Pairwise.nil, trivial⟩, rfl⟩
  | (k, v) :: l, h => by
    unfold Srt at h
    rw [List.pairwise_cons] at h
    obtain ⟨T, hT, rfl⟩ := tree_of_row l h.2
    have hi : (Bt.join (.node 0 k v .nil .nil) T).ino = (k, v) :: T.ino := by rw [join_ino]; simp [Bt.ino]
    refine ⟨Bt.join (.node 0 k v .nil .nil) T, ⟨?_, join_heap _ _ ⟨by simp [Bt.ino], by simp [Bt.ino], trivial, trivial⟩ hT.2 (fun p hp q hq => ?_)⟩, hi⟩
    · rw [hi]; exact List.pairwise_cons.2 h
    · simp [Bt.ino] at hp
      subst hp
      exact h.1 q hq
end Go.Proofs.Ytnmbnebofbdmfaa
