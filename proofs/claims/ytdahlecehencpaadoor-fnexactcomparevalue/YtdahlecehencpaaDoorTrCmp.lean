/- The order of trees is the order of their nodes in a row. Plain mathematics. -/
import Derived.Test.YtdahlecehencpaaDoorTr
import Derived.Lib.Bytealg
namespace Go.Proofs.YtdahlecehencpaaDoor

def intCmp (a b : Int) : Int := if a < b then -1 else if b < a then 1 else 0
def txtCmp (a b : ByteArray) : Int := Lib.compareBytes a.data.toList b.data.toList

theorem intCmp_zero {a b : Int} : intCmp a b = 0 ↔ a = b := by
  unfold intCmp
  split
  · constructor <;> intro h <;> omega
  · split
    · constructor <;> intro h <;> omega
    · constructor <;> intro h <;> omega
theorem intCmp_self (a : Int) : intCmp a a = 0 := intCmp_zero.2 rfl

theorem compareBytes_zero : ∀ a b : List UInt8, Lib.compareBytes a b = 0 → a = b
  | [], [] => fun _ => rfl
  | [], _ :: _ => fun h => by simp [Lib.compareBytes] at h
  | _ :: _, [] => fun h => by simp [Lib.compareBytes] at h
  | x :: a, y :: b => fun h => by
    unfold Lib.compareBytes at h
    split at h
    · simp at h
    · next h1 =>
      split at h
      · simp at h
      · next h2 =>
        have e : x = y := UInt8.le_antisymm (UInt8.not_lt.1 h2) (UInt8.not_lt.1 h1)
        rw [e, compareBytes_zero a b h]
theorem compareBytes_self : ∀ a : List UInt8, Lib.compareBytes a a = 0
  | [] => rfl
  | x :: a => by
    unfold Lib.compareBytes
    rw [if_neg (UInt8.lt_irrefl x), if_neg (UInt8.lt_irrefl x)]
    exact compareBytes_self a
theorem txtCmp_zero {a b : ByteArray} (h : txtCmp a b = 0) : a = b := by
  have := compareBytes_zero _ _ h
  have h2 : a.data = b.data := Array.toList_inj.1 this
  cases a; cases b
  exact congrArg ByteArray.mk h2
theorem txtCmp_self (a : ByteArray) : txtCmp a a = 0 := compareBytes_self _

def or2 (a b : Int) : Int := if a ≠ 0 then a else b
theorem or2_zero (b : Int) : or2 0 b = b := by simp [or2]
theorem or2_ne {a : Int} (h : a ≠ 0) (b : Int) : or2 a b = a := by simp [or2, h]

/-- Nodes, one by one. -/
def ndCmp (a b : Nd) : Int := or2 (intCmp a.up b.up) (or2 (txtCmp a.name b.name) (or2 (intCmp a.kind b.kind) (or2 (intCmp a.num b.num) (txtCmp a.text b.text))))
def lexN : List Nd → List Nd → Int
  | [], [] => 0
  | [], _ :: _ => -1
  | _ :: _, [] => 1
  | a :: as, b :: bs => or2 (ndCmp a b) (lexN as bs)

mutual
def Tr.cmp : Tr → Tr → Int
  | .mk k n t nm ks, b => or2 (intCmp k b.kind) (if k = 4 then intCmp n b.num else if k = 5 then txtCmp t b.text else Tr.cmps ks (Tr.nmOf k nm) (Tr.nmOf k b.names) 0 b.kids)
def Tr.cmps : List Tr → (Nat → ByteArray) → (Nat → ByteArray) → Nat → List Tr → Int
  | [], _, _, _, [] => 0
  | [], _, _, _, _ :: _ => -1
  | _ :: _, _, _, _, [] => 1
  | t :: ts, f, g, i, u :: us => or2 (txtCmp (f i) (g i)) (or2 (t.cmp u) (Tr.cmps ts f g (i + 1) us))
end

mutual
/-- What a node holds besides its parts. -/
def Tr.ok : Tr → Prop
  | .mk k n t _ ks => (k ≠ 4 → n = 0) ∧ (k ≠ 5 → t = ByteArray.empty) ∧ (k = 6 ∨ k = 7 ∨ ks = []) ∧ Tr.oks ks
def Tr.oks : List Tr → Prop
  | [] => True
  | t :: ts => t.ok ∧ Tr.oks ts
end
theorem Tr.oks_mem {l : List Tr} : Tr.oks l ↔ ∀ t ∈ l, t.ok := by
  induction l with
  | nil => simp [Tr.oks]
  | cons a l ih => rw [Tr.oks, ih]; simp

/-- What follows belongs to a node ahead of b. -/
def Low (R : List Nd) (b : Nat) : Prop := ∀ x, R.head? = some x → x.up < b

theorem lex_low {R l : List Nd} {x : Nd} {b : Nat} (h : Low R b) (hx : x.up = b) : lexN R (x :: l) = -1 := by
  cases R with
  | nil => rfl
  | cons y R =>
    have hy := h y rfl
    unfold lexN ndCmp
    have : intCmp y.up x.up = -1 := by unfold intCmp; rw [if_pos (by omega)]
    rw [this, or2_ne (a := -1) (by decide), or2_ne (a := -1) (by decide)]
theorem lex_high {R l : List Nd} {x : Nd} {b : Nat} (h : Low R b) (hx : x.up = b) : lexN (x :: l) R = 1 := by
  cases R with
  | nil => rfl
  | cons y R =>
    have hy := h y rfl
    unfold lexN ndCmp
    have : intCmp x.up y.up = 1 := by unfold intCmp; rw [if_neg (by omega), if_pos (by omega)]
    rw [this, or2_ne (a := 1) (by decide), or2_ne (a := 1) (by decide)]

def CmpFlat (a : Tr) : Prop := ∀ b, a.ok → b.ok →
  (∀ na nb (up : Int) (base : Nat) RA RB, up < base → Low RA base → Low RB base →
    lexN (a.flat na up base ++ RA) (b.flat nb up base ++ RB) = or2 (txtCmp na nb) (or2 (a.cmp b) (lexN RA RB))) ∧
  (a.cmp b = 0 → ∀ na up base, a.flat na up base = b.flat na up base)

theorem flat_head (t : Tr) (nm : ByteArray) (up : Int) (base : Nat) : ∃ l, t.flat nm up base = ⟨t.kind, t.num, t.text, nm, up⟩ :: l := by
  cases t with
  | mk k n t nm' ks => exact ⟨_, by rw [Tr.flat]; rfl⟩

theorem low_flats (ts : List Tr) (f : Nat → ByteArray) (i up base : Nat) {R : List Nd} (h : Low R up) (hb : up < base) : Low (Tr.flats ts f i up base ++ R) base := by
  cases ts with
  | nil =>
    intro x hx
    have := h x hx
    omega
  | cons t ts =>
    intro x hx
    obtain ⟨l, hl⟩ := flat_head t (f i) (up : Nat) base
    rw [Tr.flats, hl] at hx
    simp at hx
    rw [← hx]
    show ((up : Nat) : Int) < base
    omega

theorem cmps_flats (as : List Tr) (ih : ∀ a ∈ as, CmpFlat a) : ∀ (bs : List Tr), Tr.oks as → Tr.oks bs → ∀ (f g : Nat → ByteArray) (i : Nat),
    (∀ (up base : Nat) RA RB, up < base → Low RA up → Low RB up → lexN (Tr.flats as f i up base ++ RA) (Tr.flats bs g i up base ++ RB) = or2 (Tr.cmps as f g i bs) (lexN RA RB)) ∧
    (Tr.cmps as f g i bs = 0 → ∀ up base, Tr.flats as f i up base = Tr.flats bs g i up base) := by
  induction as with
  | nil =>
    intro bs h1 h2 f g i
    cases bs with
    | nil =>
      refine ⟨fun up base RA RB _ _ _ => ?_, fun _ _ _ => rfl⟩
      rw [Tr.cmps, or2_zero]
      rfl
    | cons b bs =>
      refine ⟨fun up base RA RB hb hA hB => ?_, fun h => by simp [Tr.cmps] at h⟩
      obtain ⟨l, hl⟩ := flat_head b (g i) (up : Nat) base
      rw [Tr.cmps, or2_ne (by decide), Tr.flats, Tr.flats, hl]
      exact lex_low hA rfl
  | cons a as iha =>
    intro bs h1 h2 f g i
    cases bs with
    | nil =>
      refine ⟨fun up base RA RB hb hA hB => ?_, fun h => by simp [Tr.cmps] at h⟩
      obtain ⟨l, hl⟩ := flat_head a (f i) (up : Nat) base
      rw [Tr.cmps, or2_ne (by decide), Tr.flats, Tr.flats, hl]
      exact lex_high hB rfl
    | cons b bs =>
      rw [Tr.oks] at h1 h2
      obtain ⟨c1, c2⟩ := ih a (by simp) b h1.1 h2.1
      obtain ⟨d1, d2⟩ := iha (fun x hx => ih x (by simp [hx])) bs h1.2 h2.2 f g (i + 1)
      have hcnt : a.cmp b = 0 → a.cnt = b.cnt := fun h => by
        have := congrArg List.length (c2 h ByteArray.empty 0 0)
        rwa [Tr.flat_length, Tr.flat_length] at this
      refine ⟨fun up base RA RB hb hA hB => ?_, fun h up base => ?_⟩
      · rw [Tr.flats, Tr.flats, List.append_assoc, List.append_assoc, Tr.cmps]
        have low : ∀ (t : Tr) (ts : List Tr) (f : Nat → ByteArray) (R : List Nd), Low R up → Low (Tr.flats ts f (i + 1) up (base + t.cnt) ++ R) base := fun t ts f R hR => by
          cases ts with
          | nil =>
            intro x hx
            have := hR x hx
            omega
          | cons t' ts =>
            intro x hx
            obtain ⟨l, hl⟩ := flat_head t' (f (i + 1)) (up : Nat) (base + t.cnt)
            rw [Tr.flats, hl] at hx
            simp at hx
            rw [← hx]
            show ((up : Nat) : Int) < base
            omega
        rw [c1 (f i) (g i) (up : Nat) base _ _ (by omega) (low a as f RA hA) (low b bs g RB hB)]
        by_cases hn : txtCmp (f i) (g i) = 0
        · rw [hn, or2_zero, or2_zero]
          by_cases hc : a.cmp b = 0
          · rw [hc, or2_zero, or2_zero, hcnt hc]
            exact d1 up (base + b.cnt) RA RB (by omega) hA hB
          · rw [or2_ne hc, or2_ne hc, or2_ne hc]
        · rw [or2_ne hn, or2_ne hn, or2_ne hn]
      · rw [Tr.cmps] at h
        have hn : txtCmp (f i) (g i) = 0 := by
          by_cases hn : txtCmp (f i) (g i) = 0
          · exact hn
          · rw [or2_ne hn] at h; exact absurd h hn
        rw [hn, or2_zero] at h
        have hc : a.cmp b = 0 := by
          by_cases hc : a.cmp b = 0
          · exact hc
          · rw [or2_ne hc] at h; exact absurd h hc
        rw [hc, or2_zero] at h
        rw [Tr.flats, Tr.flats, c2 hc, hcnt hc, d2 h, txtCmp_zero hn]

theorem cmp_flat (a : Tr) : CmpFlat a := by
  refine Tr.ind (P := CmpFlat) (fun k n t nm ks ih => ?_) a
  intro b ha hb
  obtain ⟨k', n', t', nm', ks'⟩ := b
  rw [Tr.ok] at ha hb
  obtain ⟨a1, a2, a3, a4⟩ := ha
  obtain ⟨b1, b2, b3, b4⟩ := hb
  obtain ⟨c1, c2⟩ := cmps_flats ks ih ks' a4 b4 (Tr.nmOf k nm) (Tr.nmOf k nm') 0
  rw [Tr.cmp]
  simp only [Tr.kind, Tr.num, Tr.text, Tr.names, Tr.kids]
  refine ⟨fun na nb up base RA RB hu hA hB => ?_, fun h na up base => ?_⟩
  · rw [Tr.flat, Tr.flat, List.cons_append, List.cons_append, lexN, ndCmp]
    simp only [intCmp_self, or2_zero]
    by_cases hn : txtCmp na nb = 0
    · rw [hn, or2_zero, or2_zero]
      by_cases hk : intCmp k k' = 0
      · rw [hk, or2_zero, or2_zero]
        obtain rfl := intCmp_zero.1 hk
        by_cases h4 : k = 4
        · rw [if_pos h4]
          have ek : ks = [] := by rcases a3 with h | h | h; omega; omega; exact h
          have ek' : ks' = [] := by rcases b3 with h | h | h; omega; omega; exact h
          subst ek
          subst ek'
          rw [a2 (by omega), b2 (by omega), txtCmp_self]
          by_cases hm : intCmp n n' = 0
          · rw [hm, or2_zero, or2_zero, or2_zero]; rfl
          · rw [or2_ne hm, or2_ne hm, or2_ne hm]
        · rw [if_neg h4, a1 h4, b1 h4, intCmp_self, or2_zero]
          by_cases h5 : k = 5
          · rw [if_pos h5]
            have ek : ks = [] := by rcases a3 with h | h | h; omega; omega; exact h
            have ek' : ks' = [] := by rcases b3 with h | h | h; omega; omega; exact h
            subst ek
            subst ek'
            rfl
          · rw [if_neg h5, a2 h5, b2 h5, txtCmp_self, or2_zero]
            exact c1 base (base + 1) RA RB (by omega) hA hB
      · simp only [or2_ne hk]
    · simp only [or2_ne hn]
  · have hk : intCmp k k' = 0 := by
      by_cases hk : intCmp k k' = 0
      · exact hk
      · rw [or2_ne hk] at h; exact absurd h hk
    rw [hk, or2_zero] at h
    obtain rfl := intCmp_zero.1 hk
    rw [Tr.flat, Tr.flat]
    by_cases h4 : k = 4
    · rw [if_pos h4] at h
      have ek : ks = [] := by rcases a3 with h | h | h; omega; omega; exact h
      have ek' : ks' = [] := by rcases b3 with h | h | h; omega; omega; exact h
      subst ek
      subst ek'
      rw [intCmp_zero.1 h, a2 (by omega), b2 (by omega)]
      rfl
    · rw [if_neg h4] at h
      rw [a1 h4, b1 h4]
      by_cases h5 : k = 5
      · rw [if_pos h5] at h
        have ek : ks = [] := by rcases a3 with h | h | h; omega; omega; exact h
        have ek' : ks' = [] := by rcases b3 with h | h | h; omega; omega; exact h
        subst ek
        subst ek'
        rw [txtCmp_zero h]
        rfl
      · rw [if_neg h5] at h
        rw [a2 h5, b2 h5, c2 h]

theorem cmp_whole {a b : Tr} (ha : a.ok) (hb : b.ok) : lexN (a.flat ByteArray.empty (-1) 0) (b.flat ByteArray.empty (-1) 0) = a.cmp b := by
  have := (cmp_flat a b ha hb).1 ByteArray.empty ByteArray.empty (-1) 0 [] [] (by decide) (fun x h => by simp at h) (fun x h => by simp at h)
  rw [List.append_nil, List.append_nil, txtCmp_self, or2_zero] at this
  rw [this]
  by_cases hc : a.cmp b = 0
  · rw [hc, or2_zero]; rfl
  · rw [or2_ne hc]

/-- Whether the trees of nodes are so. -/
theorem tree_ok {N : Nat → Nd} {n : Nat} (h1 : ∀ i, i < n → ((N i).kind ≠ 4 → (N i).num = 0) ∧ ((N i).kind ≠ 5 → (N i).text = ByteArray.empty)) (h2 : ∀ i, 0 < i → i < n → (N (par N i)).kind = 6 ∨ (N (par N i)).kind = 7) : ∀ d k, n - k = d → k < n → (tree N n k).ok := by
  intro d
  induction d using Nat.strongRecOn with
  | _ d ih =>
    intro k hd hk
    rw [tree_eq hk, Tr.ok]
    refine ⟨(h1 k hk).1, (h1 k hk).2, ?_, Tr.oks_mem.2 fun t ht => ?_⟩
    · by_cases hl : kidsTo N k n = []
      · rw [hl]; exact .inr (.inr rfl)
      · obtain ⟨p, hp⟩ := List.exists_mem_of_ne_nil _ hl
        obtain ⟨p1, p2, p3⟩ := kidsTo_mem hp
        have hpk : par N p = k := by unfold par; omega
        have := h2 p (by omega) p2
        rw [hpk] at this
        rcases this with h | h
        · exact .inl h
        · exact .inr (.inl h)
    · obtain ⟨p, hp, rfl⟩ := List.mem_map.1 ht
      obtain ⟨p1, p2, p3⟩ := kidsTo_mem hp
      exact ih (n - p) (by omega) p rfl p2

end Go.Proofs.YtdahlecehencpaaDoor
