/- A value as a tree: how deep it is, its nodes in a row, its key; and the tree that nodes tell. Plain mathematics. -/
import Derived.Test.YtjbjgkkkkghcgaaGreatDoorTell
namespace Go.Proofs.YtjbjgkkkkghcgaaGreatDoor

inductive Tr where
  | mk (kind num : Int) (text : ByteArray) (names : List ByteArray) (kids : List Tr)

theorem Tr.ind {P : Tr → Prop} (h : ∀ k n t nm ks, (∀ x ∈ ks, P x) → P (.mk k n t nm ks)) (t : Tr) : P t :=
  Tr.rec (motive_1 := P) (motive_2 := fun ks => ∀ x ∈ ks, P x) (fun k n t nm ks ih => h k n t nm ks ih) (fun x hx => by simp at hx)
    (fun a l ha hl x hx => by
      rcases List.mem_cons.1 hx with rfl | hx
      · exact ha
      · exact hl x hx) t

def Tr.kind : Tr → Int
  | .mk k _ _ _ _ => k
def Tr.num : Tr → Int
  | .mk _ n _ _ _ => n
def Tr.text : Tr → ByteArray
  | .mk _ _ t _ _ => t
def Tr.names : Tr → List ByteArray
  | .mk _ _ _ nm _ => nm
def Tr.kids : Tr → List Tr
  | .mk _ _ _ _ ks => ks

mutual
def Tr.deep : Tr → Nat
  | .mk k _ _ _ ks => Tr.deeps ks + (if holdsB k then 1 else 0)
def Tr.deeps : List Tr → Nat
  | [] => 0
  | t :: ts => max t.deep (Tr.deeps ts)
end

theorem Tr.deeps_snoc (l : List Tr) (t : Tr) : Tr.deeps (l ++ [t]) = max (Tr.deeps l) t.deep := by
  induction l with
  | nil => simp [Tr.deeps]
  | cons a l ih => rw [List.cons_append, Tr.deeps, Tr.deeps, ih, Nat.max_assoc]
theorem Tr.le_deeps {l : List Tr} {t : Tr} (h : t ∈ l) : t.deep ≤ Tr.deeps l := by
  induction l with
  | nil => simp at h
  | cons a l ih =>
    rw [Tr.deeps]
    rcases List.mem_cons.1 h with rfl | h
    · exact Nat.le_max_left _ _
    · exact Nat.le_trans (ih h) (Nat.le_max_right _ _)
theorem Tr.deeps_some {l : List Tr} (h : l ≠ []) : ∃ t ∈ l, Tr.deeps l = t.deep := by
  induction l with
  | nil => exact absurd rfl h
  | cons a l ih =>
    rw [Tr.deeps]
    by_cases hl : l = []
    · subst hl
      exact ⟨a, by simp, by simp [Tr.deeps]⟩
    · obtain ⟨t, ht, e⟩ := ih hl
      rcases Nat.le_total (Tr.deeps l) a.deep with hle | hle
      · exact ⟨a, by simp, Nat.max_eq_left hle⟩
      · exact ⟨t, by simp [ht], by rw [Nat.max_eq_right hle, e]⟩

/-- The name of the i-th part: none in a list. -/
def Tr.nmOf (k : Int) (nm : List ByteArray) (i : Nat) : ByteArray := if k = 7 then nm.getD i ByteArray.empty else ByteArray.empty

mutual
def Tr.cnt : Tr → Nat
  | .mk _ _ _ _ ks => Tr.cnts ks + 1
def Tr.cnts : List Tr → Nat
  | [] => 0
  | t :: ts => t.cnt + Tr.cnts ts
end

mutual
def Tr.flat : Tr → ByteArray → Int → Nat → List Nd
  | .mk k n t nm ks, name, up, base => ⟨k, n, t, name, up⟩ :: Tr.flats ks (Tr.nmOf k nm) 0 base (base + 1)
def Tr.flats : List Tr → (Nat → ByteArray) → Nat → Nat → Nat → List Nd
  | [], _, _, _, _ => []
  | t :: ts, f, i, up, base => t.flat (f i) (up : Nat) base ++ Tr.flats ts f (i + 1) up (base + t.cnt)
end

theorem Tr.flats_length (l : List Tr) (h : ∀ t ∈ l, ∀ nm up b, (t.flat nm up b).length = t.cnt) : ∀ f i up b, (Tr.flats l f i up b).length = Tr.cnts l := by
  induction l with
  | nil => intros; rfl
  | cons a l ih =>
    intro f i up b
    rw [Tr.flats, List.length_append, h a (by simp), ih (fun t ht => h t (by simp [ht])), Tr.cnts]
theorem Tr.flat_length (t : Tr) : ∀ nm up b, (t.flat nm up b).length = t.cnt := by
  refine Tr.ind (P := fun t => ∀ nm up b, (t.flat nm up b).length = t.cnt) (fun k n t nm ks ih => ?_) t
  intro name up b
  rw [Tr.flat, List.length_cons, Tr.flats_length ks ih, Tr.cnt]
theorem Tr.flats_len (l : List Tr) (f : Nat → ByteArray) (i up b : Nat) : (Tr.flats l f i up b).length = Tr.cnts l := Tr.flats_length l (fun t _ => Tr.flat_length t) f i up b

theorem Tr.cnts_append (l m : List Tr) : Tr.cnts (l ++ m) = Tr.cnts l + Tr.cnts m := by
  induction l with
  | nil => simp [Tr.cnts]
  | cons a l ih => rw [List.cons_append, Tr.cnts, Tr.cnts, ih]; omega
theorem Tr.flats_append (l m : List Tr) : ∀ (f : Nat → ByteArray) (i up b : Nat), Tr.flats (l ++ m) f i up b = Tr.flats l f i up b ++ Tr.flats m f (i + l.length) up (b + Tr.cnts l) := by
  induction l with
  | nil => intros; simp [Tr.flats, Tr.cnts]
  | cons a l ih =>
    intro f i up b
    rw [List.cons_append, Tr.flats, Tr.flats, ih, List.append_assoc, List.length_cons, Tr.cnts]
    congr 3 <;> omega
theorem Tr.flats_snoc (l : List Tr) (t : Tr) (f : Nat → ByteArray) (i up b : Nat) : Tr.flats (l ++ [t]) f i up b = Tr.flats l f i up b ++ t.flat (f (i + l.length)) (up : Nat) (b + Tr.cnts l) := by
  rw [Tr.flats_append]
  simp [Tr.flats]

/-- The tree of the node k. -/
def trF (N : Nat → Nd) (n : Nat) : Nat → Nat → Tr
  | 0, k => .mk (N k).kind (N k).num (N k).text [] []
  | f + 1, k => .mk (N k).kind (N k).num (N k).text (if (N k).kind = 7 then (kidsTo N k n).map (fun p => (N p).name) else []) ((kidsTo N k n).map (trF N n f))
def tree (N : Nat → Nd) (n k : Nat) : Tr := trF N n (n - k) k

theorem trF_fuel (N : Nat → Nd) (n : Nat) : ∀ d k, n - k = d → k < n → ∀ f, n - k ≤ f → trF N n f k = trF N n (n - k) k := by
  intro d
  induction d using Nat.strongRecOn with
  | _ d ih =>
    intro k hd hk f hf
    obtain ⟨f', rfl⟩ : ∃ f', f = f' + 1 := ⟨f - 1, by omega⟩
    obtain ⟨d', hd'⟩ : ∃ d', n - k = d' + 1 := ⟨n - k - 1, by omega⟩
    rw [hd', trF, trF]
    congr 1
    refine List.map_congr_left fun p hp => ?_
    obtain ⟨h1, h2, _⟩ := kidsTo_mem hp
    rw [ih (n - p) (by omega) p rfl h2 f' (by omega), ih (n - p) (by omega) p rfl h2 d' (by omega)]

/-- The names of k's parts. -/
def kidNames (N : Nat → Nd) (k : Nat) (ks : List Nat) : List ByteArray := if (N k).kind = 7 then ks.map (fun p => (N p).name) else []

theorem tree_eq {N : Nat → Nd} {n k : Nat} (hk : k < n) : tree N n k = .mk (N k).kind (N k).num (N k).text (kidNames N k (kidsTo N k n)) ((kidsTo N k n).map (tree N n)) := by
  unfold tree
  obtain ⟨d', hd'⟩ : ∃ d', n - k = d' + 1 := ⟨n - k - 1, by omega⟩
  rw [hd', trF]
  unfold kidNames
  congr 1
  refine List.map_congr_left fun p hp => ?_
  obtain ⟨h1, h2, _⟩ := kidsTo_mem hp
  rw [trF_fuel N n (n - p) p rfl h2 d' (by omega)]

theorem kidsTo_has {N : Nat → Nd} {k p : Nat} : ∀ {j : Nat}, k < p → p < j → (N p).up = k → p ∈ kidsTo N k j := by
  intro j
  induction j with
  | zero => intro _ h _; omega
  | succ j ih =>
    intro h1 h2 h3
    unfold kidsTo
    by_cases e : p = j
    · subst e
      rw [if_pos ⟨h1, h3⟩]
      simp
    · split
      · exact List.mem_append_left _ (ih h1 (by omega) h3)
      · exact ih h1 (by omega) h3

/-- How deep the nodes around k are. -/
def upDeep (N : Nat → Nd) (k : Nat) : Nat := if k = 0 then 0 else depth N (par N k)
theorem depth_up {N : Nat → Nd} {n k : Nat} (h : Pre N n) (hk : k < n) : depth N k = hN N k + upDeep N k := by
  unfold upDeep
  by_cases h0 : k = 0
  · subst h0; rw [if_pos rfl, depth_zero]
    omega
  · rw [if_neg h0, depth_pos h (by omega) hk]

theorem tree_deep_le {N : Nat → Nd} {n : Nat} (h : Pre N n) : ∀ i, i < n → upDeep N i + (tree N n i).deep ≤ (tree N n 0).deep := by
  intro i
  induction i using Nat.strongRecOn with
  | _ i ih =>
    intro hi
    by_cases h0 : i = 0
    · subst h0; unfold upDeep; simp
    · have hp := h.par_lt (i := i) (by omega) hi
      have hpe := h.par_eq (i := i) (by omega) hi
      have := ih _ hp (by omega)
      have hm : (tree N n i).deep ≤ Tr.deeps ((kidsTo N (par N i) n).map (tree N n)) := Tr.le_deeps (List.mem_map.2 ⟨i, kidsTo_has hp hi hpe, rfl⟩)
      have hd := depth_up h (k := par N i) (by omega)
      have hu : upDeep N i = depth N (par N i) := by unfold upDeep; rw [if_neg h0]
      rw [tree_eq (by omega), Tr.deep] at this
      have he : (if holdsB (N (par N i)).kind = true then 1 else 0) = hN N (par N i) := rfl
      rw [he] at this
      omega

theorem tree_deep_ge {N : Nat → Nd} {n : Nat} (h : Pre N n) : ∀ d k, n - k = d → k < n → ∃ i, i < n ∧ upDeep N k + (tree N n k).deep ≤ depth N i := by
  intro d
  induction d using Nat.strongRecOn with
  | _ d ih =>
    intro k hd hk
    have hdk := depth_up h hk
    have he : (if holdsB (N k).kind = true then 1 else 0) = hN N k := rfl
    rw [tree_eq hk, Tr.deep, he]
    by_cases hl : (kidsTo N k n).map (tree N n) = []
    · rw [hl]
      exact ⟨k, hk, by rw [Tr.deeps]; omega⟩
    · obtain ⟨t, ht, e⟩ := Tr.deeps_some hl
      obtain ⟨p, hp, rfl⟩ := List.mem_map.1 ht
      obtain ⟨h1, h2, h3⟩ := kidsTo_mem hp
      obtain ⟨i, hi, hle⟩ := ih (n - p) (by omega) p rfl h2
      refine ⟨i, hi, ?_⟩
      have hpk : par N p = k := by unfold par; omega
      have hu : upDeep N p = depth N k := by unfold upDeep; rw [if_neg (by omega), hpk]
      rw [e]
      omega

/-- The greatest depth of the first k nodes. -/
theorem tree_deep {N : Nat → Nd} {n : Nat} (h : Pre N n) (h0 : 0 < n) (D : Nat) (hD : ∀ d, D ≤ d ↔ ∀ i, i < n → depth N i ≤ d) : (tree N n 0).deep = D := by
  have h1 := (hD D).1 (Nat.le_refl _)
  have h2 : D ≤ (tree N n 0).deep := (hD _).2 fun i hi => by
    have := tree_deep_le h i hi
    have hi2 : depth N i ≤ upDeep N i + (tree N n i).deep := by
      have hd := depth_up h hi
      have he : (if holdsB (N i).kind = true then 1 else 0) = hN N i := rfl
      rw [tree_eq hi, Tr.deep, he]
      omega
    omega
  obtain ⟨i, hi, hle⟩ := tree_deep_ge h n 0 rfl h0
  have := h1 i hi
  have hu : upDeep N 0 = 0 := by unfold upDeep; simp
  omega

/-- The nodes from a up to e, their ups by s less. -/
def seg (N : Nat → Nd) (s : Int) (a e : Nat) : List Nd := (List.range' a (e - a)).map fun i => { N i with up := (N i).up - s }

theorem seg_nil (N : Nat → Nd) (s : Int) (a : Nat) : seg N s a a = [] := by unfold seg; simp
theorem seg_cat (N : Nat → Nd) (s : Int) {a m e : Nat} (h1 : a ≤ m) (h2 : m ≤ e) : seg N s a e = seg N s a m ++ seg N s m e := by
  unfold seg
  rw [← List.map_append]
  congr 1
  rw [show e - a = (m - a) + (e - m) by omega, ← List.range'_append_1]
  congr 2
  omega
theorem seg_cons (N : Nat → Nd) (s : Int) {a e : Nat} (h : a < e) : seg N s a e = { N a with up := (N a).up - s } :: seg N s (a + 1) e := by
  unfold seg
  rw [show e - a = (e - (a + 1)) + 1 by omega, List.range'_succ]
  rfl
theorem seg_len (N : Nat → Nd) (s : Int) (a e : Nat) : (seg N s a e).length = e - a := by unfold seg; simp

theorem end_of {N : Nat → Nd} {n k : Nat} (hk : k < n) : ∃ e, IsEnd N n k e := by
  have : ∀ d m, n - m = d → k < m → m ≤ n → (∀ i, k < i → i < m → (k : Int) ≤ (N i).up) → ∃ e, IsEnd N n k e := by
    intro d
    induction d with
    | zero => intro m hd h1 h2 h3; exact ⟨m, h1, h2, h3, fun h => by omega⟩
    | succ d ih =>
      intro m hd h1 h2 h3
      by_cases hu : (N m).up < k
      · exact ⟨m, h1, h2, h3, fun _ => hu⟩
      · refine ih (m + 1) (by omega) (by omega) (by omega) fun i hi hi2 => ?_
        by_cases e : i = m
        · subst e; omega
        · exact h3 i hi (by omega)
  exact this (n - (k + 1)) (k + 1) rfl (by omega) (by omega) (fun i h1 h2 => by omega)

theorem end_unique {N : Nat → Nd} {n k e e' : Nat} (h : IsEnd N n k e) (h' : IsEnd N n k e') : e = e' := by
  rcases Nat.lt_trichotomy e e' with hl | hl | hl
  · have := h'.2.2.1 e h.1 hl
    have := h.2.2.2 (by have := h'.2.1; omega)
    omega
  · exact hl
  · have := h.2.2.1 e' h'.1 hl
    have := h'.2.2.2 (by have := h.2.1; omega)
    omega

/-- Through the parts of k, one by one. -/
theorem parts_ind {N : Nat → Nd} {n k : Nat} (h : Pre N n) (hk : k < n) (C : Nat → Prop) (h0 : C (k + 1)) (hs : ∀ q e, Bnd N n k q → q < n → (N q).up = k → IsEnd N n q e → kidsTo N k e = kidsTo N k q ++ [q] → C q → C e) :
    ∀ e, IsEnd N n k e → kidsTo N k n = kidsTo N k e ∧ C e := by
  have : ∀ d q, n - q = d → Bnd N n k q → C q → ∃ q', Bnd N n k q' ∧ (q' < n → (N q').up ≠ k) ∧ C q' := by
    intro d
    induction d using Nat.strongRecOn with
    | _ d ih =>
      intro q hd hb hc
      by_cases hq : q < n ∧ (N q).up = k
      · obtain ⟨e, he⟩ := end_of (N := N) hq.1
        obtain ⟨hb', hk'⟩ := bnd_next h hb hq.1 hq.2 he
        have := he.1
        exact ih (n - e) (by omega) e rfl hb' (hs q e hb hq.1 hq.2 he hk' hc)
      · exact ⟨q, hb, fun hq1 hq2 => hq ⟨hq1, hq2⟩, hc⟩
  intro e he
  obtain ⟨q', hb, hu, hc⟩ := this _ _ rfl (bnd_start h hk) h0
  obtain ⟨h1, h2⟩ := bnd_stop h hb hu
  obtain rfl := end_unique he h1
  exact ⟨h2, hc⟩

/-- A part of a list has no name. -/
def NoNames (N : Nat → Nd) (n : Nat) : Prop := ∀ p, 0 < p → p < n → (N (par N p)).kind ≠ 7 → (N p).name = ByteArray.empty

theorem flat_tree {N : Nat → Nd} {n : Nat} (h : Pre N n) (hn : NoNames N n) : ∀ d k, n - k = d → k < n → ∀ e, IsEnd N n k e → ∀ nm up base,
    (tree N n k).flat nm up base = ⟨(N k).kind, (N k).num, (N k).text, nm, up⟩ :: seg N ((k : Int) - base) (k + 1) e := by
  intro d
  induction d using Nat.strongRecOn with
  | _ d ih =>
    intro k hd hk e he nm up base
    rw [tree_eq hk, Tr.flat]
    congr 1
    have hC := parts_ind h hk (fun q => k + 1 ≤ q ∧ (kidsTo N k q).length ≤ (kidsTo N k n).length ∧ (∀ j, j < (kidsTo N k q).length → (kidsTo N k n).getD j 0 = (kidsTo N k q).getD j 0) →
        Tr.flats ((kidsTo N k q).map (tree N n)) (Tr.nmOf (N k).kind (kidNames N k (kidsTo N k n))) 0 base (base + 1) = seg N ((k : Int) - base) (k + 1) q ∧ Tr.cnts ((kidsTo N k q).map (tree N n)) = q - (k + 1))
      (by
        intro _
        have : kidsTo N k (k + 1) = [] := by
          have hz : ∀ j, j ≤ k + 1 → kidsTo N k j = [] := by
            intro j
            induction j with
            | zero => intro _; rfl
            | succ j ihj => intro hj; rw [kidsTo, if_neg (by omega), ihj (by omega)]
          exact hz _ (Nat.le_refl _)
        rw [this, seg_nil]
        exact ⟨rfl, by simp [Tr.cnts]⟩)
      (by
        intro q e' hb hq hu he' hkid hc ⟨c1, c2, c3⟩
        rw [hkid, List.length_append, List.length_singleton] at c2 c3
        have hb1 := hb.1
        have he1 := he'.1
        obtain ⟨d1, d2⟩ := hc ⟨by omega, by omega, fun j hj => by
          have := c3 j (by omega)
          rw [this, List.getD_eq_getElem?_getD, List.getD_eq_getElem?_getD, List.getElem?_append_left hj]⟩
        have hlast := c3 (kidsTo N k q).length (by omega)
        rw [List.getD_eq_getElem?_getD, List.getD_eq_getElem?_getD, List.getElem?_append_right (Nat.le_refl _)] at hlast
        simp only [Nat.sub_self, List.getElem?_cons_zero, Option.getD_some] at hlast
        have hlt : (kidsTo N k q).length < (kidsTo N k n).length := by omega
        have hpar : par N q = k := by unfold par; omega
        have hname : Tr.nmOf (N k).kind (kidNames N k (kidsTo N k n)) (0 + ((kidsTo N k q).map (tree N n)).length) = (N q).name := by
          unfold Tr.nmOf kidNames
          by_cases h7 : (N k).kind = 7
          · rw [if_pos h7, if_pos h7, Nat.zero_add, List.length_map, List.getD_eq_getElem?_getD, List.getElem?_map]
            rw [List.getElem?_eq_getElem hlt] at hlast ⊢
            simp only [Option.getD_some, Option.map_some] at hlast ⊢
            rw [hlast]
          · rw [if_neg h7, hn q (by omega) hq (by rw [hpar]; exact h7)]
        have hih := ih (n - q) (by omega) q rfl hq e' he' (N q).name (base : Nat) (base + 1 + (q - (k + 1)))
        rw [hkid, List.map_append, List.map_cons, List.map_nil, Tr.flats_snoc, d1, d2, hname, hih, Tr.cnts_append, d2]
        have e1 : ((q : Int) - ((base + 1 + (q - (k + 1)) : Nat) : Int)) = (k : Int) - base := by omega
        rw [e1]
        refine ⟨?_, ?_⟩
        · rw [seg_cat N _ (a := k + 1) (m := q) (e := e') (by omega) (by omega), seg_cons N _ he1]
          congr 3
          rw [hu]; omega
        · have hl := congrArg List.length hih
          rw [Tr.flat_length, List.length_cons, seg_len] at hl
          simp only [Tr.cnts]
          omega)
      e he
    rw [hC.1]
    refine (hC.2 ⟨he.1, by rw [hC.1]; exact Nat.le_refl _, fun j _ => by rw [hC.1]⟩).1.symm ▸ ?_
    rw [hC.1]

/-- The whole row is the row of the whole tree. -/
theorem flat_whole {N : Nat → Nd} {n : Nat} (h : Pre N n) (hn : NoNames N n) (h0 : 0 < n) (hz : (N 0).name = ByteArray.empty) : (tree N n 0).flat ByteArray.empty (-1) 0 = (List.range n).map N := by
  have he : IsEnd N n 0 n := ⟨h0, Nat.le_refl _, fun i h1 h2 => by have := h.2 i h1 h2; omega, fun h => by omega⟩
  rw [flat_tree h hn n 0 rfl h0 n he, List.range_eq_range', show n = (n - 1) + 1 by omega, List.range'_succ, List.map_cons]
  congr 1
  · have := h.1 h0
    rw [← hz, ← this]
  · unfold seg
    refine List.map_congr_left fun i _ => ?_
    simp

end Go.Proofs.YtjbjgkkkkghcgaaGreatDoor
