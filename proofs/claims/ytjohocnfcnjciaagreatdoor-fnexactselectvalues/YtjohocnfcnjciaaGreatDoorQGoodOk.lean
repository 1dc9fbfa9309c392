/- The order of trees is the order of their nodes in a row. Plain mathematics. Rows of nodes of one's own; trees whose names are as many as their parts. The part of a tree that a name leads to: the specification's l3At. The parts of a node, one by one: the program's iterator partsOf. The part of a name, and the node that names lead to: the program's partNamed and nodeAt. The node that names lead to: the program's nodeAt. The part of a tree that names lead to. A good value's tree. What names lead to: the same by nodes and by trees. No program in this text. A node with all its own, by itself: the program and the specification. A value and a path of which something may be asked. A value's nodes as those of a part. No program. A good value's trees hold what they should. No program. -/
import Derived.Test.YtjohocnfcnjciaaGreatDoorTr
import Derived.Lib.Bytealg
import Derived.Test.YtjohocnfcnjciaaGreatDoorTreeD0
import Derived.Test.YtjohocnfcnjciaaGreatDoorTrBld
import Derived.Test.YtjohocnfcnjciaaGreatDoorQuote
import Derived.Test.YtjohocnfcnjciaaGreatDoorPathT0
import Derived.Test.YtjohocnfcnjciaaGreatDoorNamesIt
import Derived.Test.YtjohocnfcnjciaaGreatDoorTell
import Derived.Test.YtjohocnfcnjciaaGreatDoorStrs0
import Derived.Maps.AppendAt
import Derived.Test.YtjohocnfcnjciaaGreatDoorGoodOwn
import Derived.Test.YtjohocnfcnjciaaGreatDoorTreeM
import Derived.Test.YtjohocnfcnjciaaGreatDoorPathS
import Derived.Test.YtjohocnfcnjciaaGreatDoorBase
namespace Go.Proofs.YtjohocnfcnjciaaGreatDoor

def intCmp (a b : Int) : Int := if a < b then -1 else if b < a then 1 else 0
def txtCmp (a b : ByteArray) : Int := Lib.compareBytes a.data.toList b.data.toList

theorem intCmp_zero {a b : Int} : intCmp a b = 0 ↔ a = b := by
  unfold intCmp
  split
  · constructor <;> intro h <;> omega
  · split
    · constructor <;> intro h <;> omega
    · constructor <;> intro h <;> omega
theorem intCmp_self (a : Int) : intCmp a a = 0 := intCmp_zero.2 rfl

theorem compareBytes_zero : ∀ a b : List UInt8, Lib.compareBytes a b = 0 → a = b
  | [], [] => fun _ => rfl
  | [], _ :: _ => fun h => by simp [Lib.compareBytes] at h
  | _ :: _, [] => fun h => by simp [Lib.compareBytes] at h
  | x :: a, y :: b => fun h => by
    unfold Lib.compareBytes at h
    split at h
    · simp at h
    · next h1 =>
      split at h
      · simp at h
      · next h2 =>
        have e : x = y := UInt8.le_antisymm (UInt8.not_lt.1 h2) (UInt8.not_lt.1 h1)
        rw [e, compareBytes_zero a b h]
theorem compareBytes_self : ∀ a : List UInt8, Lib.compareBytes a a = 0
  | [] => rfl
  | x :: a => by
    unfold Lib.compareBytes
    rw [if_neg (UInt8.lt_irrefl x), if_neg (UInt8.lt_irrefl x)]
    exact compareBytes_self a
theorem txtCmp_zero {a b : ByteArray} (h : txtCmp a b = 0) : a = b := by
  have := compareBytes_zero _ _ h
  have h2 : a.data = b.data := Array.toList_inj.1 this
  cases a; cases b
  exact congrArg ByteArray.mk h2
theorem txtCmp_self (a : ByteArray) : txtCmp a a = 0 := compareBytes_self _

def or2 (a b : Int) : Int := if a ≠ 0 then a else b
theorem or2_zero (b : Int) : or2 0 b = b := by simp [or2]
theorem or2_ne {a : Int} (h : a ≠ 0) (b : Int) : or2 a b = a := by simp [or2, h]

/-- Nodes, one by one. -/
def ndCmp (a b : Nd) : Int := or2 (intCmp a.up b.up) (or2 (txtCmp a.name b.name) (or2 (intCmp a.kind b.kind) (or2 (intCmp a.num b.num) (txtCmp a.text b.text))))
def lexN : List Nd → List Nd → Int
  | [], [] => 0
  | [], _ :: _ => -1
  | _ :: _, [] => 1
  | a :: as1, b :: bs => or2 (ndCmp a b) (lexN as1 bs)

mutual
def Tr.cmp : Tr → Tr → Int
  | .mk k n t nm ks, b => or2 (intCmp k b.kind) (if k = 4 then intCmp n b.num else if k = 5 then txtCmp t b.text else Tr.cmps ks (Tr.nmOf k nm) (Tr.nmOf k b.names) 0 b.kids)
def Tr.cmps : List Tr → (Nat → ByteArray) → (Nat → ByteArray) → Nat → List Tr → Int
  | [], _, _, _, [] => 0
  | [], _, _, _, _ :: _ => -1
  | _ :: _, _, _, _, [] => 1
  | t :: ts, f, g, i, u :: us => or2 (txtCmp (f i) (g i)) (or2 (t.cmp u) (Tr.cmps ts f g (i + 1) us))
end

mutual
/-- What a node holds besides its parts. -/
def Tr.ok : Tr → Prop
  | .mk k n t _ ks => (k ≠ 4 → n = 0) ∧ (k ≠ 5 → t = ByteArray.empty) ∧ (k = 6 ∨ k = 7 ∨ ks = []) ∧ Tr.oks ks
def Tr.oks : List Tr → Prop
  | [] => True
  | t :: ts => t.ok ∧ Tr.oks ts
end
theorem Tr.oks_mem {l : List Tr} : Tr.oks l ↔ ∀ t ∈ l, t.ok := by
  induction l with
  | nil => simp [Tr.oks]
  | cons a l ih => rw [Tr.oks, ih]; simp

/-- What follows belongs to a node ahead of b. -/
def Low (R : List Nd) (b : Nat) : Prop := ∀ x, R.head? = some x → x.up < b

theorem lex_low {R l : List Nd} {x : Nd} {b : Nat} (h : Low R b) (hx : x.up = b) : lexN R (x :: l) = -1 := by
  cases R with
  | nil => rfl
  | cons y R =>
    have hy := h y rfl
    unfold lexN ndCmp
    have : intCmp y.up x.up = -1 := by unfold intCmp; rw [if_pos (by omega)]
    rw [this, or2_ne (a := -1) (by decide), or2_ne (a := -1) (by decide)]
theorem lex_high {R l : List Nd} {x : Nd} {b : Nat} (h : Low R b) (hx : x.up = b) : lexN (x :: l) R = 1 := by
  cases R with
  | nil => rfl
  | cons y R =>
    have hy := h y rfl
    unfold lexN ndCmp
    have : intCmp x.up y.up = 1 := by unfold intCmp; rw [if_neg (by omega), if_pos (by omega)]
    rw [this, or2_ne (a := 1) (by decide), or2_ne (a := 1) (by decide)]

def CmpFlat (a : Tr) : Prop := ∀ b, a.ok → b.ok →
  (∀ na nb (up : Int) (base : Nat) RA RB, up < base → Low RA base → Low RB base →
    lexN (a.flat na up base ++ RA) (b.flat nb up base ++ RB) = or2 (txtCmp na nb) (or2 (a.cmp b) (lexN RA RB))) ∧
  (a.cmp b = 0 → ∀ na up base, a.flat na up base = b.flat na up base)

theorem flat_head (t : Tr) (nm : ByteArray) (up : Int) (base : Nat) : ∃ l, t.flat nm up base = ⟨t.kind, t.num, t.text, nm, up⟩ :: l := by
  cases t with
  | mk k n t nm' ks => exact ⟨_, by rw [Tr.flat]; rfl⟩

theorem low_flats (ts : List Tr) (f : Nat → ByteArray) (i up base : Nat) {R : List Nd} (h : Low R up) (hb : up < base) : Low (Tr.flats ts f i up base ++ R) base := by
  cases ts with
  | nil =>
    intro x hx
    have := h x hx
    omega
  | cons t ts =>
    intro x hx
    obtain ⟨l, hl⟩ := flat_head t (f i) (up : Nat) base
    rw [Tr.flats, hl] at hx
    simp at hx
    rw [← hx]
    show ((up : Nat) : Int) < base
    omega

theorem cmps_flats (as1 : List Tr) (ih : ∀ a ∈ as1, CmpFlat a) : ∀ (bs : List Tr), Tr.oks as1 → Tr.oks bs → ∀ (f g : Nat → ByteArray) (i : Nat),
    (∀ (up base : Nat) RA RB, up < base → Low RA up → Low RB up → lexN (Tr.flats as1 f i up base ++ RA) (Tr.flats bs g i up base ++ RB) = or2 (Tr.cmps as1 f g i bs) (lexN RA RB)) ∧
    (Tr.cmps as1 f g i bs = 0 → ∀ up base, Tr.flats as1 f i up base = Tr.flats bs g i up base) := by
  induction as1 with
  | nil =>
    intro bs h1 h2 f g i
    cases bs with
    | nil =>
      refine ⟨fun up base RA RB _ _ _ => ?_, fun _ _ _ => rfl⟩
      rw [Tr.cmps, or2_zero]
      rfl
    | cons b bs =>
      refine ⟨fun up base RA RB hb hA hB => ?_, fun h => by simp [Tr.cmps] at h⟩
      obtain ⟨l, hl⟩ := flat_head b (g i) (up : Nat) base
      rw [Tr.cmps, or2_ne (by decide), Tr.flats, Tr.flats, hl]
      exact lex_low hA rfl
  | cons a as1 iha =>
    intro bs h1 h2 f g i
    cases bs with
    | nil =>
      refine ⟨fun up base RA RB hb hA hB => ?_, fun h => by simp [Tr.cmps] at h⟩
      obtain ⟨l, hl⟩ := flat_head a (f i) (up : Nat) base
      rw [Tr.cmps, or2_ne (by decide), Tr.flats, Tr.flats, hl]
      exact lex_high hB rfl
    | cons b bs =>
      rw [Tr.oks] at h1 h2
      obtain ⟨c1, c2⟩ := ih a (by simp) b h1.1 h2.1
      obtain ⟨d1, d2⟩ := iha (fun x hx => ih x (by simp [hx])) bs h1.2 h2.2 f g (i + 1)
      have hcnt : a.cmp b = 0 → a.cnt = b.cnt := fun h => by
        have := congrArg List.length (c2 h ByteArray.empty 0 0)
        rwa [Tr.flat_length, Tr.flat_length] at this
      refine ⟨fun up base RA RB hb hA hB => ?_, fun h up base => ?_⟩
      · rw [Tr.flats, Tr.flats, List.append_assoc, List.append_assoc, Tr.cmps]
        have low : ∀ (t : Tr) (ts : List Tr) (f : Nat → ByteArray) (R : List Nd), Low R up → Low (Tr.flats ts f (i + 1) up (base + t.cnt) ++ R) base := fun t ts f R hR => by
          cases ts with
          | nil =>
            intro x hx
            have := hR x hx
            omega
          | cons t' ts =>
            intro x hx
            obtain ⟨l, hl⟩ := flat_head t' (f (i + 1)) (up : Nat) (base + t.cnt)
            rw [Tr.flats, hl] at hx
            simp at hx
            rw [← hx]
            show ((up : Nat) : Int) < base
            omega
        rw [c1 (f i) (g i) (up : Nat) base _ _ (by omega) (low a as1 f RA hA) (low b bs g RB hB)]
        by_cases hn : txtCmp (f i) (g i) = 0
        · rw [hn, or2_zero, or2_zero]
          by_cases hc : a.cmp b = 0
          · rw [hc, or2_zero, or2_zero, hcnt hc]
            exact d1 up (base + b.cnt) RA RB (by omega) hA hB
          · rw [or2_ne hc, or2_ne hc, or2_ne hc]
        · rw [or2_ne hn, or2_ne hn, or2_ne hn]
      · rw [Tr.cmps] at h
        have hn : txtCmp (f i) (g i) = 0 := by
          by_cases hn : txtCmp (f i) (g i) = 0
          · exact hn
          · rw [or2_ne hn] at h; exact absurd h hn
        rw [hn, or2_zero] at h
        have hc : a.cmp b = 0 := by
          by_cases hc : a.cmp b = 0
          · exact hc
          · rw [or2_ne hc] at h; exact absurd h hc
        rw [hc, or2_zero] at h
        rw [Tr.flats, Tr.flats, c2 hc, hcnt hc, d2 h, txtCmp_zero hn]

theorem cmp_flat (a : Tr) : CmpFlat a := by
  refine Tr.ind (P := CmpFlat) (fun k n t nm ks ih => ?_) a
  intro b ha hb
  obtain ⟨k', n', t', nm', ks'⟩ := b
  rw [Tr.ok] at ha hb
  obtain ⟨a1, a2, a3, a4⟩ := ha
  obtain ⟨b1, b2, b3, b4⟩ := hb
  obtain ⟨c1, c2⟩ := cmps_flats ks ih ks' a4 b4 (Tr.nmOf k nm) (Tr.nmOf k nm') 0
  rw [Tr.cmp]
  simp only [Tr.kind, Tr.num, Tr.text, Tr.names, Tr.kids]
  refine ⟨fun na nb up base RA RB hu hA hB => ?_, fun h na up base => ?_⟩
  · rw [Tr.flat, Tr.flat, List.cons_append, List.cons_append, lexN, ndCmp]
    simp only [intCmp_self, or2_zero]
    by_cases hn : txtCmp na nb = 0
    · rw [hn, or2_zero, or2_zero]
      by_cases hk : intCmp k k' = 0
      · rw [hk, or2_zero, or2_zero]
        obtain rfl := intCmp_zero.1 hk
        by_cases h4 : k = 4
        · rw [if_pos h4]
          have ek : ks = [] := by rcases a3 with h | h | h; omega; omega; exact h
          have ek' : ks' = [] := by rcases b3 with h | h | h; omega; omega; exact h
          subst ek
          subst ek'
          rw [a2 (by omega), b2 (by omega), txtCmp_self]
          by_cases hm : intCmp n n' = 0
          · rw [hm, or2_zero, or2_zero, or2_zero]; rfl
          · rw [or2_ne hm, or2_ne hm, or2_ne hm]
        · rw [if_neg h4, a1 h4, b1 h4, intCmp_self, or2_zero]
          by_cases h5 : k = 5
          · rw [if_pos h5]
            have ek : ks = [] := by rcases a3 with h | h | h; omega; omega; exact h
            have ek' : ks' = [] := by rcases b3 with h | h | h; omega; omega; exact h
            subst ek
            subst ek'
            rfl
          · rw [if_neg h5, a2 h5, b2 h5, txtCmp_self, or2_zero]
            exact c1 base (base + 1) RA RB (by omega) hA hB
      · simp only [or2_ne hk]
    · simp only [or2_ne hn]
  · have hk : intCmp k k' = 0 := by
      by_cases hk : intCmp k k' = 0
      · exact hk
      · rw [or2_ne hk] at h; exact absurd h hk
    rw [hk, or2_zero] at h
    obtain rfl := intCmp_zero.1 hk
    rw [Tr.flat, Tr.flat]
    by_cases h4 : k = 4
    · rw [if_pos h4] at h
      have ek : ks = [] := by rcases a3 with h | h | h; omega; omega; exact h
      have ek' : ks' = [] := by rcases b3 with h | h | h; omega; omega; exact h
      subst ek
      subst ek'
      rw [intCmp_zero.1 h, a2 (by omega), b2 (by omega)]
      rfl
    · rw [if_neg h4] at h
      rw [a1 h4, b1 h4]
      by_cases h5 : k = 5
      · rw [if_pos h5] at h
        have ek : ks = [] := by rcases a3 with h | h | h; omega; omega; exact h
        have ek' : ks' = [] := by rcases b3 with h | h | h; omega; omega; exact h
        subst ek
        subst ek'
        rw [txtCmp_zero h]
        rfl
      · rw [if_neg h5] at h
        rw [a2 h5, b2 h5, c2 h]

theorem cmp_whole {a b : Tr} (ha : a.ok) (hb : b.ok) : lexN (a.flat ByteArray.empty (-1) 0) (b.flat ByteArray.empty (-1) 0) = a.cmp b := by
  have := (cmp_flat a b ha hb).1 ByteArray.empty ByteArray.empty (-1) 0 [] [] (by decide) (fun x h => by simp at h) (fun x h => by simp at h)
  rw [List.append_nil, List.append_nil, txtCmp_self, or2_zero] at this
  rw [this]
  by_cases hc : a.cmp b = 0
  · rw [hc, or2_zero]; rfl
  · rw [or2_ne hc]

/-- Whether the trees of nodes are so. -/
theorem tree_ok {N : Nat → Nd} {n : Nat} (h1 : ∀ i, i < n → ((N i).kind ≠ 4 → (N i).num = 0) ∧ ((N i).kind ≠ 5 → (N i).text = ByteArray.empty)) (h2 : ∀ i, 0 < i → i < n → (N (par N i)).kind = 6 ∨ (N (par N i)).kind = 7) : ∀ d k, n - k = d → k < n → (tree N n k).ok := by
  intro d
  induction d using Nat.strongRecOn with
  | _ d ih =>
    intro k hd hk
    rw [tree_eq hk, Tr.ok]
    refine ⟨(h1 k hk).1, (h1 k hk).2, ?_, Tr.oks_mem.2 fun t ht => ?_⟩
    · by_cases hl : kidsTo N k n = []
      · rw [hl]; exact .inr (.inr rfl)
      · obtain ⟨p, hp⟩ := List.exists_mem_of_ne_nil _ hl
        obtain ⟨p1, p2, p3⟩ := kidsTo_mem hp
        have hpk : par N p = k := by unfold par; omega
        have := h2 p (by omega) p2
        rw [hpk] at this
        rcases this with h | h
        · exact .inl h
        · exact .inr (.inl h)
    · obtain ⟨p, hp, rfl⟩ := List.mem_map.1 ht
      obtain ⟨p1, p2, p3⟩ := kidsTo_mem hp
      exact ih (n - p) (by omega) p rfl p2

end Go.Proofs.YtjohocnfcnjciaaGreatDoor
namespace Go.Proofs.YtjohocnfcnjciaaGreatDoor
open Go.RowKit
set_option linter.unusedVariables false

theorem infoNode5 : (Tryz.prog.info? 94).map (fun i => (i.zero, i.size, i.bytes)) = some (some (.agg #[.int .i64 0, .int .i64 0, .string ⟨#[]⟩, .string ⟨#[]⟩, .int .i64 0]), 5, 56) := by kernel_rfl

/-- The cells of nodes in a row. -/
def ndCells (l : List Nd) : List Value := l.flatMap fun x => [.int .i64 x.kind, .int .i64 x.num, .string x.text, .string x.name, .int .i64 x.up]
theorem nd_snoc (l : List Nd) (x : Nd) : ndCells (l ++ [x]) = ndCells l ++ [.int .i64 x.kind, .int .i64 x.num, .string x.text, .string x.name, .int .i64 x.up] := by simp [ndCells]
def OwnsN (w : World) (B : Nat) (v : Value) (l : List Nd) : Prop := w.ownsRow B 94 5 v l.length (ndCells l)

mutual
/-- In each map there is a name for each part. -/
def Tr.named : Tr → Prop
  | .mk k _ _ nm ks => (k = 7 → nm.length = ks.length) ∧ Tr.nameds ks
def Tr.nameds : List Tr → Prop
  | [] => True
  | t :: ts => t.named ∧ Tr.nameds ts
end
theorem Tr.nameds_mem {l : List Tr} : Tr.nameds l ↔ ∀ t ∈ l, t.named := by
  induction l with
  | nil => simp [Tr.nameds]
  | cons a l ih => rw [Tr.nameds, ih]; simp

/-- A tree opened, its rows in blocks of S. -/
theorem TreeIs.open {w : World} {S : Nat → Prop} {k n : Int} {t : ByteArray} {nm : List ByteArray} {ks : List Tr} {v : Value} (h : TreeIs w S (.mk k n t nm ks) v) :
    ∃ an cn ak ck, v = .agg #[.int .i64 k, .int .i64 n, .string t, .slice an nm.length cn, .slice ak ks.length ck] ∧ NamsAt w S an nm ∧
      (ks = [] ∨ ∃ g, ak = some ⟨g, 0, none⟩ ∧ S g ∧ g < w.heap.size ∧ ∀ i x, ks[i]? = some x → KidAt w S x g i) := by
  rw [TreeIs] at h
  obtain ⟨an, cn, ak, ck, rfl, hn, hks, _⟩ := h
  refine ⟨an, cn, ak, ck, rfl, hn, ?_⟩
  rcases hks with h | ⟨g, rfl, h1, h2, h3⟩
  · exact .inl h
  · refine .inr ⟨g, rfl, h1, h2, fun i x hx => ?_⟩
    have := kidsAt_iff.1 h3 i x hx
    rwa [Nat.zero_add] at this
theorem KidAt.cellsS {w : World} {S : Nat → Prop} {x : Tr} {g i : Nat} (h : KidAt w S x g i) : ∃ an cn ak ck, w.cell? ⟨g, i * 5, none⟩ = some (.int .i64 x.kind) ∧ w.cell? ⟨g, i * 5 + 1, none⟩ = some (.int .i64 x.num) ∧ w.cell? ⟨g, i * 5 + 2, none⟩ = some (.string x.text) ∧
    w.cell? ⟨g, i * 5 + 3, none⟩ = some (.slice an x.names.length cn) ∧ w.cell? ⟨g, i * 5 + 4, none⟩ = some (.slice ak x.kids.length ck) ∧ TreeIs w S x (.agg #[.int .i64 x.kind, .int .i64 x.num, .string x.text, .slice an x.names.length cn, .slice ak x.kids.length ck]) := by
  obtain ⟨x0, x1, x2, x3, x4, c0, c1, c2, c3, c4, hx⟩ := h
  obtain ⟨k, n, t, nm, ks⟩ := x
  obtain ⟨an, cn, ak, ck, e, _, _⟩ := TreeIs.open (v := .agg #[x0, x1, x2, x3, x4]) hx
  simp only [Value.agg.injEq, Array.mk.injEq, List.cons.injEq, and_true] at e
  obtain ⟨rfl, rfl, rfl, rfl, rfl⟩ := e
  exact ⟨an, cn, ak, ck, c0, c1, c2, c3, c4, hx⟩

theorem nd_news (W : World) (x : Nd) (T : TypeId) (H : Nat) (hH : W.heap.size = H) : ∀ (j : Nat) (u : Value), [Value.int .i64 x.kind, .int .i64 x.num, .string x.text, .string x.name, .int .i64 x.up][j]? = some u → (W.alloc (.cells #[.int .i64 x.kind, .int .i64 x.num, .string x.text, .string x.name, .int .i64 x.up] T)).cell? ((⟨H, 0, none⟩ : Addr).add j) = some u := by
  intro j u h
  subst hH
  have e : (⟨W.heap.size, 0, none⟩ : Addr).add j = ⟨W.heap.size, j, none⟩ := by unfold Addr.add; split <;> simp_all
  rw [e, World.cell?_alloc_new]
  simpa using h
theorem nd_one (k n u : Int) (t m : ByteArray) : ∀ x : Value, x ∈ [Value.int .i64 k, .int .i64 n, .string t, .string m, .int .i64 u] → x.oneCell' = true := by
  intro x hx
  simp at hx
  rcases hx with rfl | rfl | rfl | rfl | rfl <;> rfl

/-- The row is where it was, or in a new block from H on. -/
def Moved (H : Nat) (lv lv' : Value) : Prop := lv'.ownBlock = lv.ownBlock ∨ ∃ g, lv'.ownBlock = some g ∧ H ≤ g
theorem Moved.ne {H k : Nat} {lv lv' : Value} (h : Moved H lv lv') (hk : k < H) (hn : some k ≠ lv.ownBlock) : some k ≠ lv'.ownBlock := fun e => by
  rcases h with h | ⟨g, h, hg⟩
  · rw [h] at e; exact hn e
  · rw [h] at e; injection e with e; omega
theorem grown_on {w wr w2 : World} {lv q : Value} (h : w.grownBy wr lv.ownBlock) (hm : Moved w.heap.size lv q) (k : wr.grownBy w2 q.ownBlock) : w.grownBy w2 lv.ownBlock :=
  ⟨k.os.trans h.os, k.tape.trans h.tape, k.output.trans h.output, Nat.le_trans h.size k.size, fun b hb hn => (k.block b (Nat.lt_of_lt_of_le hb h.size) (hm.ne hb hn)).trans (h.block b hb hn)⟩

theorem OwnsN.form {w : World} {B : Nat} {v : Value} {l : List Nd} (h : OwnsN w B v l) : ∃ a c, v = .slice a l.length c := by
  rcases h.2 with ⟨rfl, e⟩ | ⟨g, cap, cur, rfl, _⟩
  · exact ⟨none, 0, by rw [e]⟩
  · exact ⟨_, _, rfl⟩

end Go.Proofs.YtjohocnfcnjciaaGreatDoor
namespace Go.Proofs.YtjohocnfcnjciaaGreatDoor
open Go.RowKit
set_option linter.unusedVariables false

/-- Does the name lead to the i-th part? -/
def hitI (k : Int) (nm : List ByteArray) (name : ByteArray) (i : Nat) : Bool := (decide (k = 7) && ((nm.getD i ByteArray.empty).toList == name.toList)) || (decide (k = 6) && ((strL (Lib.decDigits i)).toList == name.toList))
def atI (k : Int) (nm : List ByteArray) (name : ByteArray) (m : Nat) : Option Nat := (List.range m).find? (hitI k nm name)
theorem atI_hit {k : Int} {nm : List ByteArray} {name : ByteArray} {i m : Nat} (hi : i < m) (h : hitI k nm name i = true) (h0 : ∀ j, j < i → hitI k nm name j = false) : atI k nm name m = some i := by
  unfold atI
  obtain ⟨d, rfl⟩ : ∃ d, m = i + (d + 1) := ⟨m - i - 1, by omega⟩
  rw [List.range_add, List.find?_append, List.find?_eq_none.2 (fun x hx => by simp [h0 x (List.mem_range.1 hx)]), List.range_succ_eq_map]
  simp [h]
theorem atI_none {k : Int} {nm : List ByteArray} {name : ByteArray} {m : Nat} (h0 : ∀ j, j < m → hitI k nm name j = false) : atI k nm name m = none := by
  unfold atI
  exact List.find?_eq_none.2 (fun x hx => by simp [h0 x (List.mem_range.1 hx)])
theorem atI_lt {k : Int} {nm : List ByteArray} {name : ByteArray} {m i : Nat} (h : atI k nm name m = some i) : i < m := List.mem_range.1 (List.mem_of_find?_eq_some h)
def atV (o : Option Nat) : Int := match o with
  | some i => (i : Int)
  | none => -1

set_option maxRecDepth 100000 in
set_option maxHeartbeats 4000000 in
theorem l3At_any (k n : Int) (t : ByteArray) (nm : List ByteArray) (ks : List Tr) (v : Value) (name : ByteArray) (w : World) (h : Tree w (.mk k n t nm ks) v) (hnd : k = 7 → nm.length = ks.length) (hc : ks.length ≤ 2 ^ 20) :
    Calls Tryz.prog 93 #[v, .string name] w fun e w' => e = .returned (.int .i64 (atV (atI k nm name ks.length))) ∧ Below w.heap.size w w' := by
  obtain ⟨an, cn, ak, ck, rfl, hnm, hk⟩ := h.open
  have HNM : Hid (NamsAt w (fun _ => True) an nm) := hnm
  have HND : Hid (k = 7 → nm.length = ks.length) := hnd
  clear hnm hk hnd h
  go_enter Tryz.func93, Tryz.ntmps93
  go_wp2_with fail
  go_loopw [9] (fun i wr => ∃ m : Nat, m ≤ ks.length ∧ i = .int .i64 (m : Int) ∧ Hid (∀ j, j < m → hitI k nm name j = false) ∧ Below w.heap.size w wr ∧ w.heap.size < wr.heap.size ∧ wr.cell? ⟨w.heap.size, 0, none⟩ = some (.int .i64 k) ∧ wr.cell? ⟨w.heap.size, 3, none⟩ = some (.slice an nm.length cn)) (fun i _ => ks.length - (intOf i).toNat)
  case atStart => exact ⟨0, Nat.zero_le _, rfl, fun j hj => by omega, by go_grown, by simp, by simp [go_sem], by simp [go_sem]⟩
  case round =>
    obtain ⟨m, hm, rfl, HH, hnx, hzw, u0, u3⟩ := hrel
    by_cases hlt : m < ks.length
    · have j0 : (0 : Int) ≤ (m : Int) := by omega
      have j1 : (m : Int) < (ks.length : Int) := by omega
      by_cases h7 : k = 7
      · have hnl := HND.out h7
        rcases HNM.out with h0 | ⟨gn, rfl, _, hg2, hnc⟩
        · rw [h0] at hnl; simp at hnl; omega
        have hnm2 : wr.cell? ⟨gn, m, none⟩ = some (.string (nm.getD m ByteArray.empty)) := (hnx.cell hg2).trans (hnc m (by omega))
        have j2 : (m : Int) < (nm.length : Int) := by omega
        obtain ⟨nx, hx⟩ : ∃ nx, nx = nm.getD m ByteArray.empty := ⟨_, rfl⟩
        rw [← hx] at hnm2
        have HX : Hid (nx = nm.getD m ByteArray.empty) := hx
        clear hnc hx
        subst h7
        cases heq : (nx.toList == name.toList) with
        | true =>
          have HI : Hid (atI 7 nm name ks.length = some m) := atI_hit hlt (by unfold hitI; rw [← HX.out, heq]; rfl) HH.out
          go_wp2_with fail
          go_ret
          exact ⟨by rw [HI.out]; rfl, hnx⟩
        | false =>
          have HH2 : Hid (∀ j, j < m + 1 → hitI 7 nm name j = false) := fun j hj => by
            by_cases e : j = m
            · subst e; unfold hitI; rw [← HX.out, heq]; rfl
            · exact HH.out j (by omega)
          go_wp2_with fail
          go_roundw
          case rel => exact ⟨m + 1, by omega, by go_num, HH2, hnx, hzw, u0, u3⟩
          case measure => simp [intOf]; omega
      · have e7 : (k == 7) = false := by simpa using h7
        by_cases h6 : k = 6
        · subst h6
          go_wp2_with fail
          refine (l1Num_any _ (m : Int) _ rfl (by omega) (by omega)).mono ?_
          rintro e w1 ⟨rfl, hb1⟩
          have HB : Hid (Below w.heap.size w w1) := hnx.trans (hb1.mono hnx.size)
          have v0 := (hb1.cell (p := ⟨w.heap.size, 0, none⟩) hzw).trans u0
          have v3 := (hb1.cell (p := ⟨w.heap.size, 3, none⟩) hzw).trans u3
          have hz1 : w.heap.size < w1.heap.size := Nat.lt_of_lt_of_le hzw hb1.size
          clear hb1 u0 u3
          rw [show ((m : Int)).toNat = m from rfl]
          cases heq : ((strL (Lib.decDigits m)).toList == name.toList) with
          | true =>
            have HI : Hid (atI 6 nm name ks.length = some m) := atI_hit hlt (by unfold hitI; rw [heq]; simp) HH.out
            go_wp2_with fail
            go_ret
            exact ⟨by rw [HI.out]; rfl, HB.out⟩
          | false =>
            have HH2 : Hid (∀ j, j < m + 1 → hitI 6 nm name j = false) := fun j hj => by
              by_cases e : j = m
              · subst e; unfold hitI; rw [heq]; simp
              · exact HH.out j (by omega)
            go_wp2_with fail
            go_roundw
            case rel => exact ⟨m + 1, by omega, by go_num, HH2, HB.out, hz1, v0, v3⟩
            case measure => simp [intOf]; omega
        · have e6 : (k == 6) = false := by simpa using h6
          have HH2 : Hid (∀ j, j < m + 1 → hitI k nm name j = false) := fun j hj => by unfold hitI; rw [decide_eq_false h7, decide_eq_false h6]; rfl
          go_wp2_with fail
          go_roundw
          case rel => exact ⟨m + 1, by omega, by go_num, HH2, hnx, hzw, u0, u3⟩
          case measure => simp [intOf]; omega
    · obtain rfl : m = ks.length := by omega
      have HI : Hid (atI k nm name ks.length = none) := atI_none HH.out
      go_wp2
      go_ret
      exact ⟨by rw [HI.out]; rfl, hnx⟩

end Go.Proofs.YtjohocnfcnjciaaGreatDoor
namespace Go.Proofs.YtjohocnfcnjciaaGreatDoor
open Go.RowKit Go.Shelf
set_option linter.unusedVariables false
attribute [local go_sem] Oper.semAt_some

/-- The name that leads to the part p, the i-th of k. -/
def nmAt (N : Nat → Nd) (k i p : Nat) : ByteArray := if (N k).kind = 6 then strL (Lib.decDigits i) else (N p).name
/-- The parts of k ahead of j, each by its name. -/
def partsTo (N : Nat → Nd) (k j : Nat) : List (ByteArray × Nat) := (kidsTo N k j).zipIdx.map fun x => (nmAt N k x.2 x.1, x.1)
theorem partsTo_hit {N : Nat → Nd} {k j : Nat} (h : k < j ∧ (N j).up = k) : partsTo N k (j + 1) = partsTo N k j ++ [(nmAt N k (kidsTo N k j).length j, j)] := by
  unfold partsTo
  rw [kidsTo, if_pos h, List.zipIdx_append, List.map_append]
  simp
theorem partsTo_miss {N : Nat → Nd} {k j : Nat} (h : ¬ (k < j ∧ (N j).up = k)) : partsTo N k (j + 1) = partsTo N k j := by
  unfold partsTo
  rw [kidsTo, if_neg h]
theorem partsTo_len (N : Nat → Nd) (k j : Nat) : (partsTo N k j).length = (kidsTo N k j).length := by simp [partsTo]
theorem partsTo_prefix (N : Nat → Nd) (k j : Nat) : ∀ d, partsTo N k j <+: partsTo N k (j + d) := by
  intro d
  induction d with
  | zero => exact List.prefix_rfl
  | succ d ih =>
    by_cases h : k < j + d ∧ (N (j + d)).up = k
    · rw [← Nat.add_assoc, partsTo_hit h]
      exact ih.trans (List.prefix_append _ _)
    · rw [← Nat.add_assoc, partsTo_miss h]
      exact ih

/-- What the iterator hands on: a name, and a part's number. -/
def encSP (x : ByteArray × Nat) : Array Value := #[.string x.1, .int .i64 (x.2 : Int)]

/-- Three blocks are as they were. -/
structure Keep3 (b1 b2 b3 : Nat) (A C : World) : Prop where
  size : A.heap.size ≤ C.heap.size
  one : C.heap[b1]? = A.heap[b1]?
  two : C.heap[b2]? = A.heap[b2]?
  three : C.heap[b3]? = A.heap[b3]?
theorem Keep3.refl (b1 b2 b3 : Nat) (A : World) : Keep3 b1 b2 b3 A A := ⟨Nat.le_refl _, rfl, rfl, rfl⟩
theorem Keep3.trans {b1 b2 b3 : Nat} {A C D : World} (h : Keep3 b1 b2 b3 A C) (k : Keep3 b1 b2 b3 C D) : Keep3 b1 b2 b3 A D :=
  ⟨Nat.le_trans h.size k.size, k.one.trans h.one, k.two.trans h.two, k.three.trans h.three⟩
theorem Keep3.of {b1 b2 b3 B : Nat} {A C : World} (h : Below B A C) (h1 : b1 < B) (h2 : b2 < B) (h3 : b3 < B) : Keep3 b1 b2 b3 A C := ⟨h.size, h.block _ h1, h.block _ h2, h.block _ h3⟩
theorem NodesAt.keep3 {A C : World} {b off n B1 B2 : Nat} {N : Nat → Nd} (h : NodesAt A b off n N) (k : Keep3 b B1 B2 A C) : NodesAt C b off n N := fun i hi => by
  have e : ∀ o, C.cell? ⟨b, o, none⟩ = A.cell? ⟨b, o, none⟩ := fun o => World.cell?_of_block (w := A) k.one
  obtain ⟨h0, h1, h2, h3, h4⟩ := h i hi
  exact ⟨(e _).trans h0, (e _).trans h1, (e _).trans h2, (e _).trans h3, (e _).trans h4⟩

set_option maxRecDepth 100000 in
set_option maxHeartbeats 4000000 in
theorem partsOf1_in (n l B1 B2 b off c len k : Nat) (N : Nat → Nd) (hn : 1 ≤ n) (hlen : len ≤ 80) (hk : k < len) (hup : ∀ i, i < len → (N i).up = (k : Int) → k < i) (Kp : World → World → Prop) (hKp : ∀ A C, Kp A C → Keep3 b B1 B2 A C)
    (J Jx : List (ByteArray × Nat) → World → Prop)
    (hY : ∀ pre x W1, J pre W1 → pre.length < 80 → pre ++ [x] <+: partsTo N k len → YieldAt Fence.wide (n - 1) Tryz.prog l (encSP x) W1 fun e W' =>
      (e = .returned (.bool true) ∧ J (pre ++ [x]) W' ∧ Kp W1 W') ∨ (e = .returned (.bool false) ∧ Jx (pre ++ [x]) W'))
    (W : World) (hJ : AbidesFrom W.heap.size J) (h1 : W.cell? ⟨B1, 0, none⟩ = some (.slice (some ⟨b, off, none⟩) len c)) (h2 : W.cell? ⟨B2, 0, none⟩ = some (.int .i64 (k : Int))) (hat : NodesAt W b off len N) (h0 : J [] W) :
    CallsIn Fence.wide n Tryz.prog 182 #[.func (.yield l) #[] #[], .pointer (some ⟨B1, 0, none⟩), .pointer (some ⟨B2, 0, none⟩)] W fun e W' => (∃ v, e = .returned v) ∧
      ((∃ ys, ys = partsTo N k len ∧ J ys W') ∨ (∃ pre, pre <+: partsTo N k len ∧ Jx pre W')) := by
  have HAT : Hid (NodesAt W b off len N) := hat
  have HUP : Hid (∀ i, i < len → (N i).up = (k : Int) → k < i) := hup
  have q1 := World.block_lt_of_cell? _ _ h1
  have q2 := World.block_lt_of_cell? _ _ h2
  have q3 : b < W.heap.size := World.block_lt_of_cell? _ _ (hat 0 (by omega)).1
  dsimp only at q1 q2
  clear hat hup
  refine callsIn_of_wp Tryz.func182 rfl trivial ?_ rfl
  simp only [Tryz.ntmps182, List.size_toArray, List.length_cons, List.length_nil, Nat.reduceAdd, Nat.reduceSub, Array.replicate_succ, Array.replicate_zero, List.push_toArray, List.append_toArray, List.nil_append, List.cons_append]
  gi_wp2_with fail
  gi_loopw [4, 10] (fun av iv wr => ∃ j : Nat, j ≤ len ∧ iv = .int .i64 (j : Int) ∧ av = .int .i64 ((kidsTo N k j).length : Int) ∧ Hid (J (partsTo N k j) wr ∧ Keep3 b B1 B2 W wr)) (fun _ iv _ => len - (intOf iv).toNat)
  case atStart => exact ⟨0, Nat.zero_le _, rfl, rfl, h0, Keep3.refl _ _ _ _⟩
  case round =>
    obtain ⟨j, hj, rfl, rfl, HR⟩ := hrel
    by_cases hlt : j < len
    · have hz := HR.out.2.size
      obtain ⟨a0, a1, a2, a3, a4⟩ := HAT.out.keep3 HR.out.2 j hlt
      have c1 : wr.cell? ⟨B1, 0, none⟩ = some (.slice (some ⟨b, off, none⟩) len c) := (World.cell?_of_block (w := W) HR.out.2.two).trans h1
      have c2 : wr.cell? ⟨B2, 0, none⟩ = some (.int .i64 (k : Int)) := (World.cell?_of_block (w := W) HR.out.2.three).trans h2
      have ck := (HAT.out.keep3 HR.out.2 k hk).1
      have i0 : (0 : Int) ≤ (j : Int) := by omega
      have i1 : (j : Int) < (len : Int) := by omega
      have i2 : (0 : Int) ≤ (k : Int) := by omega
      have i3 : (k : Int) < (len : Int) := by omega
      have b1 : B1 < wr.heap.size := by omega
      have b2 : B2 < wr.heap.size := by omega
      have b3 : b < wr.heap.size := by omega
      obtain ⟨W2, hW2⟩ : ∃ W2, W2 = wr.alloc (Obj.cells #[Value.int .i64 (N j).kind, .int .i64 (N j).num, .string (N j).text, .string (N j).name, .int .i64 (N j).up] 94) := ⟨_, rfl⟩
      have hb2 : Below wr.heap.size wr W2 := by rw [hW2]; exact (Below.refl _ _).alloc (Nat.le_refl _) _
      have HJ2 : Hid (J (partsTo N k j) W2) := abide_on hJ HR.out.1 hb2
      have HK2 : Hid (Keep3 b B1 B2 wr W2) := Keep3.of hb2 b3 b1 b2
      clear hb2
      by_cases hu : (N j).up = (k : Int)
      · have hub : ((N j).up != (k : Int)) = false := by simp [hu]
        have hkj : k < j := HUP.out j hlt hu
        have HPH : Hid (partsTo N k (j + 1) = partsTo N k j ++ [(nmAt N k (kidsTo N k j).length j, j)]) := partsTo_hit ⟨hkj, hu⟩
        have HKL : Hid ((kidsTo N k (j + 1)).length = (kidsTo N k j).length + 1) := by show _ = _; rw [kidsTo, if_pos ⟨hkj, hu⟩, List.length_append]; rfl
        have HPX : Hid (partsTo N k j ++ [(nmAt N k (kidsTo N k j).length j, j)] <+: partsTo N k len) := by
          have := partsTo_prefix N k (j + 1) (len - (j + 1))
          rw [HPH.out, show j + 1 + (len - (j + 1)) = len by omega] at this
          exact this
        have hkl : (kidsTo N k j).length ≤ j := kids_len N k j
        obtain ⟨fn, tmps, assign, body, hy, hR⟩ := hY (partsTo N k j) (nmAt N k (kidsTo N k j).length j, j) W2 HJ2.out (by rw [partsTo_len]; omega) HPX.out
        dsimp only [encSP] at hy
        rw [hW2] at hy hR
        by_cases h6 : (N k).kind = 6
        · have h6b : ((N k).kind == (6 : Int)) = true := by simp [h6]
          rw [show nmAt N k (kidsTo N k j).length j = ⟨(Lib.decDigits (kidsTo N k j).length).toArray⟩ by unfold nmAt; rw [if_pos h6]; rfl] at hy
          rw [hW2] at HK2
          clear hW2 HJ2 hu h6
          gi_wp2_with fail
          refine ⟨trivial, (callsIn_wide.2 (Tryz.strconv_Itoa_small (kidsTo N k j).length (by omega) _)).mono ?_⟩
          rintro e w0 ⟨rfl, hw0⟩
          have hw := hw0.symm
          subst hw
          clear hw0
          gi_wp2
          refine hR.mono ?_
          rintro e w3 (⟨rfl, hJ3, hk3⟩ | ⟨rfl, hJx3⟩)
          · have HR3 : Hid (J (partsTo N k (j + 1)) w3 ∧ Keep3 b B1 B2 W w3) := ⟨by rw [HPH.out]; exact hJ3, (HR.out.2.trans HK2.out).trans (hKp _ _ hk3)⟩
            clear hJ3 hk3
            gi_wp2
            go_roundw
            case rel => exact ⟨j + 1, by omega, by simp, by rw [HKL.out]; simp, HR3⟩
            case measure => simp [intOf]; omega
          · gi_wp2
            refine bodyPost_ret (results_none rfl _ _ _) rfl ?_
            exact ⟨⟨_, rfl⟩, .inr ⟨_, HPX.out, hJx3⟩⟩
        · have h6b : ((N k).kind == (6 : Int)) = false := by simpa using h6
          rw [show nmAt N k (kidsTo N k j).length j = (N j).name by unfold nmAt; rw [if_neg h6]] at hy
          rw [hW2] at HK2
          clear hW2 HJ2 hu h6
          gi_wp2
          refine hR.mono ?_
          rintro e w3 (⟨rfl, hJ3, hk3⟩ | ⟨rfl, hJx3⟩)
          · have HR3 : Hid (J (partsTo N k (j + 1)) w3 ∧ Keep3 b B1 B2 W w3) := ⟨by rw [HPH.out]; exact hJ3, (HR.out.2.trans HK2.out).trans (hKp _ _ hk3)⟩
            clear hJ3 hk3
            gi_wp2
            go_roundw
            case rel => exact ⟨j + 1, by omega, by simp, by rw [HKL.out]; simp, HR3⟩
            case measure => simp [intOf]; omega
          · gi_wp2
            refine bodyPost_ret (results_none rfl _ _ _) rfl ?_
            exact ⟨⟨_, rfl⟩, .inr ⟨_, HPX.out, hJx3⟩⟩
      · have hub : ((N j).up != (k : Int)) = true := by simpa using hu
        have HP : Hid (partsTo N k (j + 1) = partsTo N k j ∧ (kidsTo N k (j + 1)).length = (kidsTo N k j).length) := ⟨partsTo_miss (fun h => hu h.2), by rw [kidsTo, if_neg (fun h => hu h.2)]⟩
        have HR2 : Hid (J (partsTo N k (j + 1)) W2 ∧ Keep3 b B1 B2 W W2) := ⟨by rw [HP.out.1]; exact HJ2.out, HR.out.2.trans HK2.out⟩
        rw [hW2] at HR2
        clear hW2 HJ2 HK2 hu
        gi_wp2
        go_roundw
        case rel => exact ⟨j + 1, by omega, by simp, by rw [HP.out.2], HR2⟩
        case measure => simp [intOf]; omega
    · obtain rfl : j = len := by omega
      gi_wp2
      go_end0
      exact ⟨⟨_, rfl⟩, .inl ⟨_, rfl, HR.out.1⟩⟩

set_option maxHeartbeats 1000000 in
/-- partsOf: both are boxed; the function value captures the boxes. -/
theorem partsOf_in (n : Nat) (a : Option Addr) (len c k : Nat) (w : World) :
    CallsIn Fence.wide n Tryz.prog 173 #[.slice a len c, .int .i64 (k : Int)] w fun e w' => e = .returned (.func (.func 182) #[] #[.pointer (some ⟨w.heap.size, 0, none⟩), .pointer (some ⟨w.heap.size + 1, 0, none⟩)]) ∧ w' = (w.alloc (.cells #[.slice a len c] 36)).alloc (.cells #[.int .i64 (k : Int)] 3) := by
  refine callsIn_of_wp Tryz.func173 rfl trivial ?_ rfl
  simp only [Tryz.ntmps173, List.size_toArray, List.length_cons, List.length_nil, Nat.reduceAdd, Nat.reduceSub, Array.replicate_succ, Array.replicate_zero, List.push_toArray, List.append_toArray, List.nil_append, List.cons_append]
  gi_wp2
  go_ret
  exact ⟨rfl, rfl⟩

/-- THE ITERATOR's CONTRACT. -/
theorem parts_stops (n B1 B2 b off c len k : Nat) (N : Nat → Nd) (hn : 1 ≤ n) (hlen : len ≤ 80) (hk : k < len) (hup : ∀ i, i < len → (N i).up = (k : Int) → k < i) (Kp : World → World → Prop) (hKp : ∀ A C, Kp A C → Keep3 b B1 B2 A C) (w : World)
    (hB1 : B1 < w.heap.size) (hB2 : B2 < w.heap.size) (hb : b < w.heap.size) (h1 : w.cell? ⟨B1, 0, none⟩ = some (.slice (some ⟨b, off, none⟩) len c)) (h2 : w.cell? ⟨B2, 0, none⟩ = some (.int .i64 (k : Int))) (hat : NodesAt w b off len N) :
    SeqStopsK Fence.wide n Tryz.prog 182 #[.pointer (some ⟨B1, 0, none⟩), .pointer (some ⟨B2, 0, none⟩)] encSP Kp (fun ys => ys = partsTo N k len) (fun pre => pre <+: partsTo N k len) 80 w := fun l J Jx W hW hJ _ hY h0 =>
  partsOf1_in n l B1 B2 b off c len k N hn hlen hk hup Kp hKp J Jx (fun pre x W1 h1 h2 _ => hY pre x W1 h1 h2) W hJ ((hW.cell (p := ⟨B1, 0, none⟩) hB1).trans h1) ((hW.cell (p := ⟨B2, 0, none⟩) hB2).trans h2) (hat.below hW hb) h0

/-- The parts, each with what is known of it. -/
abbrev PartOf (N : Nat → Nd) (k len : Nat) := { x : ByteArray × Nat // x ∈ partsTo N k len }
def valsOf {N : Nat → Nd} {k len : Nat} (l : List (PartOf N k len)) : List (ByteArray × Nat) := l.map (·.1)
theorem valsOf_snoc {N : Nat → Nd} {k len : Nat} (l : List (PartOf N k len)) (x : PartOf N k len) : valsOf (l ++ [x]) = valsOf l ++ [x.1] := by simp [valsOf]
theorem valsOf_inj {N : Nat → Nd} {k len : Nat} : ∀ {a b : List (PartOf N k len)}, valsOf a = valsOf b → a = b := by
  intro a
  induction a with
  | nil => intro b h; cases b with
    | nil => rfl
    | cons y b => simp [valsOf] at h
  | cons x a ih => intro b h; cases b with
    | nil => simp [valsOf] at h
    | cons y b =>
      simp only [valsOf, List.map_cons, List.cons.injEq] at h
      rw [Subtype.ext h.1, ih h.2]

/-- THE ITERATOR's CONTRACT, for a body that must know of what it is handed. -/
theorem parts_stopsS (n B1 B2 b off c len k : Nat) (N : Nat → Nd) (hn : 1 ≤ n) (hlen : len ≤ 80) (hk : k < len) (hup : ∀ i, i < len → (N i).up = (k : Int) → k < i) (Kp : World → World → Prop) (hKp : ∀ A C, Kp A C → Keep3 b B1 B2 A C) (w : World)
    (hB1 : B1 < w.heap.size) (hB2 : B2 < w.heap.size) (hb : b < w.heap.size) (h1 : w.cell? ⟨B1, 0, none⟩ = some (.slice (some ⟨b, off, none⟩) len c)) (h2 : w.cell? ⟨B2, 0, none⟩ = some (.int .i64 (k : Int))) (hat : NodesAt w b off len N) :
    SeqStopsK Fence.wide n Tryz.prog 182 #[.pointer (some ⟨B1, 0, none⟩), .pointer (some ⟨B2, 0, none⟩)] (fun x : PartOf N k len => encSP x.1) Kp (fun ys => valsOf ys = partsTo N k len) (fun pre => valsOf pre <+: partsTo N k len) 80 w := fun l J Jx W hW hJ hJx hY h0 => by
  refine (partsOf1_in n l B1 B2 b off c len k N hn hlen hk hup Kp hKp (fun pre W => ∃ pre', valsOf pre' = pre ∧ J pre' W) (fun pre W => ∃ pre', valsOf pre' = pre ∧ Jx pre' W) ?_ W ?_ ((hW.cell (p := ⟨B1, 0, none⟩) hB1).trans h1) ((hW.cell (p := ⟨B2, 0, none⟩) hB2).trans h2) (hat.below hW hb) ⟨[], rfl, h0⟩).mono ?_
  · rintro pre x W1 ⟨pre', rfl, hp⟩ hl hpx
    have hx : x ∈ partsTo N k len := hpx.subset (by simp)
    obtain ⟨fn, tmps, assign, body, hy, hR⟩ := hY pre' ⟨x, hx⟩ W1 hp (by simpa [valsOf] using hl)
    refine ⟨fn, tmps, assign, body, hy, hR.mono ?_⟩
    rintro e W' (⟨rfl, hj, hk'⟩ | ⟨rfl, hj⟩)
    · exact .inl ⟨rfl, ⟨pre' ++ [⟨x, hx⟩], valsOf_snoc _ _, hj⟩, hk'⟩
    · exact .inr ⟨rfl, ⟨pre' ++ [⟨x, hx⟩], valsOf_snoc _ _, hj⟩⟩
  · rintro s A C row ⟨s', rfl, hs⟩ hg hr
    exact ⟨s', rfl, hJ s' A C row hs hg hr⟩
  · rintro e W' ⟨he, ⟨ys, rfl, ys', hv, hj⟩ | ⟨pre, hp, pre', rfl, hj⟩⟩
    · exact ⟨he, .inl ⟨ys', hv, hj⟩⟩
    · exact ⟨he, .inr ⟨pre', hp, hj⟩⟩

end Go.Proofs.YtjohocnfcnjciaaGreatDoor
namespace Go.Proofs.YtjohocnfcnjciaaGreatDoor
open Go.RowKit Go.Shelf
set_option linter.unusedVariables false
attribute [local go_sem] Oper.semAt_some

/-- The number of the first of that name. -/
def findP (l : List (ByteArray × Nat)) (name : ByteArray) : Option Nat := (l.find? fun x => x.1.toList == name.toList).map (·.2)
def PartIs (l : List (ByteArray × Nat)) (name : ByteArray) (w : World) (e : Ending) (w' : World) : Prop :=
  e = .returned (.tuple #[.int .i64 (((findP l name).getD 0 : Nat) : Int), .bool (findP l name).isSome]) ∧ Below w.heap.size w w'

def noneOf (name : ByteArray) (pre : List (ByteArray × Nat)) : Prop := ∀ x ∈ pre, (x.1.toList == name.toList) = false
def hitOf (name : ByteArray) (pre : List (ByteArray × Nat)) : Prop := ∃ pre0 x, pre = pre0 ++ [x] ∧ noneOf name pre0 ∧ (x.1.toList == name.toList) = true
def lastN (pre : List (ByteArray × Nat)) : Nat := (pre.getLast?.map (·.2)).getD 0
theorem find_none {name : ByteArray} {l : List (ByteArray × Nat)} (h : noneOf name l) : findP l name = none := by
  unfold findP
  rw [List.find?_eq_none.2 (fun x hx => by simp [h x hx])]
  rfl
theorem find_hit {name : ByteArray} {pre l : List (ByteArray × Nat)} (h : hitOf name pre) (hp : pre <+: l) : findP l name = some (lastN pre) := by
  obtain ⟨pre0, x, rfl, h0, hx⟩ := h
  obtain ⟨t, rfl⟩ := hp
  unfold findP lastN
  rw [List.append_assoc, List.find?_append, List.find?_eq_none.2 (fun y hy => by simp [h0 y hy])]
  simp [hx]

theorem keep3_b {w : World} {b1 b2 b3 : Nat} (h1 : b1 < w.heap.size) (h2 : b2 < w.heap.size) (h3 : b3 < w.heap.size) : ∀ (W : World) (l : Nat) (o o' : Obj), w.heap.size ≤ l → W.heap[l]? = some o → o.isCells = false → o.isWalk = false → Keep3 b1 b2 b3 W (W.putObj l o') := by
  intro W l o o' hl ho _ _
  have hlt : l < W.heap.size := (Array.getElem?_eq_some_iff.1 ho).1
  have hg := grownBy_putObj' W l o'
  exact ⟨hg.size, hg.block _ (by omega) (by simp; omega), hg.block _ (by omega) (by simp; omega), hg.block _ (by omega) (by simp; omega)⟩

set_option maxRecDepth 100000 in
set_option maxHeartbeats 4000000 in
theorem partNamed_in (b off c len k : Nat) (N : Nat → Nd) (name : ByteArray) (w : World) (hlen : len ≤ 80) (hk : k < len) (hup : ∀ i, i < len → (N i).up = (k : Int) → k < i) (hb : b < w.heap.size) (hat : NodesAt w b off len N) :
    CallsIn Fence.wide 5 Tryz.prog 177 #[.slice (some ⟨b, off, none⟩) len c, .int .i64 (k : Int), .string name] w (PartIs (partsTo N k len) name w) := by
  refine callsIn_of_wp_marks Tryz.func177 rfl trivial ?_ rfl
  simp only [Tryz.ntmps177, List.size_toArray, List.length_cons, List.length_nil, Nat.reduceAdd, Nat.reduceSub, Array.replicate_succ, Array.replicate_zero, List.push_toArray, List.append_toArray, List.nil_append, List.cons_append]
  gi_wp2_with fail
  refine ⟨trivial, (partsOf_in _ _ _ _ _ _).mono ?_⟩
  rintro e w' ⟨rfl, rfl⟩
  have bS := Boxed.new w 9 (.string name)
  have bR := Boxed.new (w.alloc (.cells #[.string name] 9)) 3 (.int .i64 0)
  have bQ := Boxed.new ((w.alloc (.cells #[.string name] 9)).alloc (.cells #[.int .i64 0] 3)) 4 (.bool false)
  have bN := Boxed.new (((w.alloc (.cells #[.string name] 9)).alloc (.cells #[.int .i64 0] 3)).alloc (.cells #[.bool false] 4)) 36 (.slice (some ⟨b, off, none⟩) len c)
  have bK := Boxed.new ((((w.alloc (.cells #[.string name] 9)).alloc (.cells #[.int .i64 0] 3)).alloc (.cells #[.bool false] 4)).alloc (.cells #[.slice (some ⟨b, off, none⟩) len c] 36)) 3 (.int .i64 (k : Int))
  simp only [World.size_alloc] at bR bQ bN bK
  have hB0 : Below w.heap.size w (((((w.alloc (.cells #[.string name] 9)).alloc (.cells #[.int .i64 0] 3)).alloc (.cells #[.bool false] 4)).alloc (.cells #[.slice (some ⟨b, off, none⟩) len c] 36)).alloc (.cells #[.int .i64 (k : Int)] 3)) := (((((Below.refl _ w).alloc (Nat.le_refl _) _).alloc (by simp) _).alloc (by simp; omega) _).alloc (by simp; omega) _).alloc (by simp; omega) _
  gi_wp2_with fail
  refine wpIn_rangeFunc_ownG rfl (by decide) (gf := 182) (lb := #[.pointer (some ⟨w.heap.size + 1 + 1 + 1, 0, none⟩), .pointer (some ⟨w.heap.size + 1 + 1 + 1 + 1, 0, none⟩)]) rfl trivial (enters_of Tryz.func182 (by kernel_rfl) rfl)
    (parts_stops 4 (w.heap.size + 1 + 1 + 1) (w.heap.size + 1 + 1 + 1 + 1) b off c len k N (by decide) hlen hk hup (Keep3 b (w.heap.size + 1 + 1 + 1) (w.heap.size + 1 + 1 + 1 + 1)) (fun _ _ h => h) _ (by simp) (by simp) (by simp; omega) (bN.alloc _).cell bK.cell (hat.below hB0 hb)) (fun h k => h.trans k) (keep3_b (by simp; omega) (by simp) (by simp)) (Below.refl _ _) (fun _ => rfl)
    (fun pre W => (noneOf name pre ∧ (Boxed W w.heap.size 9 (.string name) ∧ (Boxed W (w.heap.size + 1) 3 (.int .i64 0) ∧ Boxed W (w.heap.size + 1 + 1) 4 (.bool false)))) ∧ Below w.heap.size w W)
    (fun c pre W => ((c = .ret ∧ hitOf name pre) ∧ (Boxed W (w.heap.size + 1) 3 (.int .i64 (lastN pre : Nat)) ∧ Boxed W (w.heap.size + 1 + 1) 4 (.bool true))) ∧ Below w.heap.size w W)
    (OwnFrom.and (OwnFrom.and (ownFrom_pure _ _) (OwnFrom.and (Own.from (boxed_own _ _ _) _) (OwnFrom.and (Own.from (boxed_own _ _ _) _) (Own.from (boxed_own _ _ _) _)))) (ownFrom_below (Nat.le_refl _) (by simp; omega)))
    (fun c => OwnFrom.and (OwnFrom.and (ownFrom_pure _ _) (OwnFrom.and (Own.from (boxed_own _ _ (fun pre => .int .i64 (lastN pre : Nat))) _) (Own.from (boxed_own _ _ _) _))) (ownFrom_below (Nat.le_refl _) (by simp; omega)))
    ⟨⟨fun x hx => by simp at hx, (((bS.alloc _).alloc _).alloc _).alloc _, ((bR.alloc _).alloc _).alloc _, (bQ.alloc _).alloc _⟩, hB0⟩
    (fun x => { tmps := #[.slice (some ⟨b, off, none⟩) len c, .int .i64 (k : Int), .string name, undef, undef, .pointer (some ⟨w.heap.size, 0, none⟩), .pointer (some ⟨w.heap.size + 1, 0, none⟩), .pointer (some ⟨w.heap.size + 1 + 1, 0, none⟩), .string x.1, .int .i64 (x.2 : Int), .slice (some ⟨b, off, none⟩) len c, .int .i64 (k : Int), .func (.func 182) #[] #[.pointer (some ⟨w.heap.size + 1 + 1 + 1, 0, none⟩), .pointer (some ⟨w.heap.size + 1 + 1 + 1 + 1, 0, none⟩)], .string x.1, .int .i64 (x.2 : Int), undef, undef, undef, undef], defers := [] }) ?assign ?body ?done ?stop
  case assign =>
    intro l x W K hK
    dsimp only [encSP]
    gi_wp2
    exact hK
  case body =>
    rintro l pre ⟨nm, p⟩ W ⟨⟨hno, hbS, hbR, hbQ⟩, hB⟩ hlt
    have cS := hbS.cell
    cases heq : (nm.toList == name.toList) with
    | true =>
      have cR := hbR.cell
      have fR := hbR.frozen
      have hQ1 : Boxed (W.setCell ⟨w.heap.size + 1, 0, none⟩ (.int .i64 (p : Int))) (w.heap.size + 1 + 1) 4 (.bool false) := hbQ.other (by omega) _
      have cQ1 := hQ1.cell
      have fQ1 := hQ1.frozen
      have hQ2 := hQ1.set (.bool true)
      have hR2 := (hbR.set (.int .i64 (p : Int))).other (show w.heap.size + 1 ≠ w.heap.size + 1 + 1 by omega) (.bool true)
      gi_wp2
      exact ⟨((KeepsOthers.setCell _ _ _).trans (KeepsOthers.setCell _ _ _)).from _, ⟨⟨rfl, pre, (nm, p), rfl, hno, heq⟩, by simpa [lastN] using hR2, hQ2⟩, (hB.setCell (p := ⟨w.heap.size + 1, 0, none⟩) (by simp) _).setCell (p := ⟨w.heap.size + 1 + 1, 0, none⟩) (by simp; omega) _⟩
    | false =>
      gi_wp2
      exact ⟨KeepsFrom.refl _ _, Keep3.refl _ _ _ _, ⟨fun x hx => by rcases List.mem_append.1 hx with hx | hx; exact hno x hx; simp at hx; subst hx; exact heq, hbS, hbR, hbQ⟩, hB⟩
  case done =>
    rintro D ys W hD rfl ⟨⟨hno, hbS, hbR, hbQ⟩, hB⟩ hK
    have HF : Hid (findP (partsTo N k len) name = none) := find_none hno
    have cR := hbR.cell
    have fR := hbR.frozen
    have hQ1 : Boxed (W.setCell ⟨w.heap.size + 1, 0, none⟩ (.int .i64 0)) (w.heap.size + 1 + 1) 4 (.bool false) := hbQ.other (by omega) _
    have cQ1 := hQ1.cell
    have fQ1 := hQ1.frozen
    have hQ2 := hQ1.set (.bool false)
    have hR2 := (hbR.set (.int .i64 0)).other (show w.heap.size + 1 ≠ w.heap.size + 1 + 1 by omega) (.bool false)
    have hK' := ((KeepsOthers.setCell W ⟨w.heap.size + 1, 0, none⟩ (.int .i64 0)).trans (KeepsOthers.setCell _ ⟨w.heap.size + 1 + 1, 0, none⟩ (.bool false))).same D _ hK rfl
    have hB2 := (hB.setCell (p := ⟨w.heap.size + 1, 0, none⟩) (by simp) (.int .i64 0)).setCell (p := ⟨w.heap.size + 1 + 1, 0, none⟩) (by simp; omega) (.bool false)
    gi_wp2
    refine ⟨by simp, .inl ⟨_, _, rfl, run_takeDeferred hK', ?_⟩⟩
    have kR := cell_kept hR2.cell (grownBy_putObj' _ D (.deferred none)) (fun r e => by cases e; exact ⟨_, hK', rfl⟩)
    have kQ := cell_kept hQ2.cell (grownBy_putObj' _ D (.deferred none)) (fun r e => by cases e; exact ⟨_, hK', rfl⟩)
    refine ⟨.tuple #[.int .i64 0, .bool false], ?_, by rw [HF.out]; rfl, hB2.trans (belowK_b (w := w) (Nat.le_refl _) _ D _ _ (by simp at hD; omega) hK' rfl rfl)⟩
    simp [results, Tryz.f177, go_sem, kR, kQ]
  case stop =>
    rintro D c' pre W hD hpre ⟨⟨⟨rfl, hhit⟩, hbR, hbQ⟩, hB⟩ hK
    have HF : Hid (findP (partsTo N k len) name = some (lastN pre)) := find_hit hhit hpre
    gi_wp2
    refine ⟨by simp, .inl ⟨_, _, rfl, run_takeDeferred hK, ?_⟩⟩
    have kR := cell_kept hbR.cell (grownBy_putObj' _ D (.deferred none)) (fun r e => by cases e; exact ⟨_, hK, rfl⟩)
    have kQ := cell_kept hbQ.cell (grownBy_putObj' _ D (.deferred none)) (fun r e => by cases e; exact ⟨_, hK, rfl⟩)
    refine ⟨.tuple #[.int .i64 (lastN pre : Nat), .bool true], ?_, by rw [HF.out]; rfl, hB.trans (belowK_b (w := w) (Nat.le_refl _) _ D _ _ (by simp at hD; omega) hK rfl rfl)⟩
    simp [results, Tryz.f177, go_sem, kR, kQ]

end Go.Proofs.YtjohocnfcnjciaaGreatDoor
namespace Go.Proofs.YtjohocnfcnjciaaGreatDoor
open Go.RowKit
set_option linter.unusedVariables false

/-- The node that names lead to, from k on. -/
def goN (N : Nat → Nd) (len : Nat) : Nat → List ByteArray → Option Nat
  | k, [] => some k
  | k, nm :: r => (findP (partsTo N k len) nm).bind fun p => goN N len p r

theorem parts_mem {N : Nat → Nd} {k j : Nat} {x : ByteArray × Nat} (h : x ∈ partsTo N k j) : x.2 ∈ kidsTo N k j := by
  unfold partsTo at h
  obtain ⟨y, hy, rfl⟩ := List.mem_map.1 h
  exact (List.mem_zipIdx' hy).2 ▸ List.getElem_mem _
theorem findP_kid {N : Nat → Nd} {k len p : Nat} {nm : ByteArray} (h : findP (partsTo N k len) nm = some p) : p ∈ kidsTo N k len := by
  unfold findP at h
  obtain ⟨x, hx, rfl⟩ := Option.map_eq_some_iff.1 h
  exact parts_mem (List.mem_of_find?_eq_some hx)

theorem lst_drop (f : Nat → ByteArray) {m i : Nat} (h : i < m) : (lst f m).drop i = f i :: (lst f m).drop (i + 1) := by
  rw [List.drop_eq_getElem_cons (by rw [lst_length]; exact h)]
  congr 1
  simp [lst]

set_option maxRecDepth 100000 in
set_option maxHeartbeats 2000000 in
theorem nodeAt_any (b off c len : Nat) (N : Nat → Nd) (a : Option Addr) (ca m : Nat) (f : Nat → ByteArray) (w : World) (hlen : len ≤ 80) (h0 : 0 < len) (hpre : ∀ i, i < len → (N i).up < (i : Int)) (hb : b < w.heap.size) (hat : NodesAt w b off len N) (hm : m ≤ 2 ^ 20) (ha : ArgS w a m f) :
    Calls Tryz.prog 169 #[.slice (some ⟨b, off, none⟩) len c, .slice a m ca] w fun e w' => e = .returned (.tuple #[.int .i64 (((goN N len 0 (lst f m)).getD 0 : Nat) : Int), .bool (goN N len 0 (lst f m)).isSome]) ∧ Below w.heap.size w w' := by
  have HAT : Hid (NodesAt w b off len N) := hat
  have HPR : Hid (∀ i, i < len → (N i).up < (i : Int)) := hpre
  have HA : Hid (ArgS w a m f) := ha
  clear hat hpre ha
  go_enter Tryz.func169, Tryz.ntmps169
  go_wp2_with fail
  go_loopw [6, 13] (fun kv iv wr => ∃ (i k : Nat), i ≤ m ∧ iv = .int .i64 (i : Int) ∧ kv = .int .i64 (k : Int) ∧ k < len ∧ Hid (goN N len 0 (lst f m) = goN N len k ((lst f m).drop i)) ∧ Below w.heap.size w wr) (fun _ iv _ => m - (intOf iv).toNat)
  case atStart => exact ⟨0, 0, Nat.zero_le _, rfl, rfl, h0, rfl, Below.refl _ _⟩
  case round =>
    obtain ⟨i, k, hi, rfl, rfl, hk, HG, hnx⟩ := hrel
    by_cases hlt : i < m
    · rcases HA.out with h0' | ⟨ba, oa, rfl, hba, haa⟩
      · omega
      have a0 := (hnx.cell hba).trans (haa i hlt)
      have i0 : (0 : Int) ≤ (i : Int) := by omega
      have i1 : (i : Int) < (m : Int) := by omega
      have HS : Hid (goN N len 0 (lst f m) = (findP (partsTo N k len) (f i)).bind fun p => goN N len p ((lst f m).drop (i + 1))) := by
        show _ = _
        rw [HG.out, lst_drop f hlt, goN]
      have hz := hnx.size
      clear haa
      go_wp2_with fail
      refine ((callsIn_wide (n := 5)).1 (partNamed_in b off c len k N (f i) _ hlen hk (fun j hj hu => by have := HPR.out j hj; omega) (by omega) (HAT.out.below hnx hb))).mono ?_
      rintro e w1 ⟨rfl, hb1⟩
      have HB : Hid (Below w.heap.size w w1) := hnx.trans (hb1.mono hz)
      clear hb1
      cases hf : findP (partsTo N k len) (f i) with
      | none =>
        have HN : Hid (goN N len 0 (lst f m) = none) := by show _ = _; rw [HS.out, hf]; rfl
        dsimp only [Option.getD, Option.isSome]
        go_wp2
        exact bodyPost_ret (v := .tuple #[.int .i64 0, .bool false]) (by simp [results, Tryz.results169, go_sem]) rfl ⟨by rw [HN.out]; rfl, HB.out⟩
      | some p =>
        have HS2 : Hid (goN N len 0 (lst f m) = goN N len p ((lst f m).drop (i + 1))) := by show _ = _; rw [HS.out, hf]; rfl
        have hp : p < len := (kidsTo_mem (findP_kid hf)).2.1
        dsimp only [Option.getD, Option.isSome]
        go_wp2
        go_roundw
        case rel => exact ⟨i + 1, p, by omega, by go_num, rfl, hp, HS2, HB.out⟩
        case measure => simp [intOf]; omega
    · obtain rfl : i = m := by omega
      have HN : Hid (goN N len 0 (lst f i) = some k) := by
        show _ = _
        rw [HG.out, List.drop_of_length_le (by rw [lst_length]; exact Nat.le_refl _), goN]
      go_wp2
      exact bodyPost_ret (v := .tuple #[.int .i64 (k : Int), .bool true]) (by simp [results, Tryz.results169, go_sem]) rfl ⟨by rw [HN.out]; rfl, hnx⟩

end Go.Proofs.YtjohocnfcnjciaaGreatDoor
namespace Go.Proofs.YtjohocnfcnjciaaGreatDoor
open Go.RowKit
set_option linter.unusedVariables false

def getT : Tr → List ByteArray → Option Tr
  | t, [] => some t
  | t, nm :: r => (atI t.kind t.names nm t.kids.length).bind fun i => (t.kids[i]?).bind fun x => getT x r

/-- Five cells at the head of a block that may be written. -/
def FiveAt (w : World) (B : Nat) (x0 x1 x2 x3 x4 : Value) : Prop :=
  (w.cell? ⟨B, 0, none⟩ = some x0 ∧ w.cell? ⟨B, 1, none⟩ = some x1 ∧ w.cell? ⟨B, 2, none⟩ = some x2 ∧ w.cell? ⟨B, 3, none⟩ = some x3 ∧ w.cell? ⟨B, 4, none⟩ = some x4) ∧
  (w.frozen? ⟨B, 0, none⟩ = false ∧ w.frozen? ⟨B, 1, none⟩ = false ∧ w.frozen? ⟨B, 2, none⟩ = false ∧ w.frozen? ⟨B, 3, none⟩ = false ∧ w.frozen? ⟨B, 4, none⟩ = false)
theorem FiveAt.below {w w' : World} {B Z : Nat} {x0 x1 x2 x3 x4 : Value} (h : FiveAt w B x0 x1 x2 x3 x4) (hb : Below Z w w') (hZ : B < Z) : FiveAt w' B x0 x1 x2 x3 x4 := by
  obtain ⟨⟨a0, a1, a2, a3, a4⟩, f0, f1, f2, f3, f4⟩ := h
  exact ⟨⟨(hb.cell hZ).trans a0, (hb.cell hZ).trans a1, (hb.cell hZ).trans a2, (hb.cell hZ).trans a3, (hb.cell hZ).trans a4⟩, (hb.frozen hZ).trans f0, (hb.frozen hZ).trans f1, (hb.frozen hZ).trans f2, (hb.frozen hZ).trans f3, (hb.frozen hZ).trans f4⟩
theorem FiveAt.but {w w' : World} {B C Z : Nat} {x0 x1 x2 x3 x4 : Value} (h : FiveAt w B x0 x1 x2 x3 x4) (hb : BelowBut Z C w w') (hZ : B < Z) (hne : B ≠ C) : FiveAt w' B x0 x1 x2 x3 x4 := by
  obtain ⟨⟨a0, a1, a2, a3, a4⟩, f0, f1, f2, f3, f4⟩ := h
  exact ⟨⟨(hb.cell hZ hne).trans a0, (hb.cell hZ hne).trans a1, (hb.cell hZ hne).trans a2, (hb.cell hZ hne).trans a3, (hb.cell hZ hne).trans a4⟩, (hb.frozen hZ hne).trans f0, (hb.frozen hZ hne).trans f1, (hb.frozen hZ hne).trans f2, (hb.frozen hZ hne).trans f3, (hb.frozen hZ hne).trans f4⟩
theorem FiveAt.set {w : World} {B : Nat} {x0 x1 x2 x3 x4 : Value} (h : FiveAt w B x0 x1 x2 x3 x4) (y0 y1 y2 y3 y4 : Value) :
    FiveAt (((((w.setCell ⟨B, 0, none⟩ y0).setCell ⟨B, 1, none⟩ y1).setCell ⟨B, 2, none⟩ y2).setCell ⟨B, 3, none⟩ y3).setCell ⟨B, 4, none⟩ y4) B y0 y1 y2 y3 y4 ∧ ∀ Z, BelowBut Z B w (((((w.setCell ⟨B, 0, none⟩ y0).setCell ⟨B, 1, none⟩ y1).setCell ⟨B, 2, none⟩ y2).setCell ⟨B, 3, none⟩ y3).setCell ⟨B, 4, none⟩ y4) := by
  obtain ⟨⟨a0, a1, a2, a3, a4⟩, f0, f1, f2, f3, f4⟩ := h
  have p : ∀ o, (((((w.setCell ⟨B, 0, none⟩ y0).setCell ⟨B, 1, none⟩ y1).setCell ⟨B, 2, none⟩ y2).setCell ⟨B, 3, none⟩ y3).setCell ⟨B, 4, none⟩ y4).cell? ⟨B, o, none⟩ =
      if o = 4 then some y4 else if o = 3 then some y3 else if o = 2 then some y2 else if o = 1 then some y1 else if o = 0 then some y0 else w.cell? ⟨B, o, none⟩ := fun o => by
    have e0 : (w.cell? ⟨B, 0, none⟩).isSome = true := by rw [a0]; rfl
    have e1 : ((w.setCell ⟨B, 0, none⟩ y0).cell? ⟨B, 1, none⟩).isSome = true := by rw [cell_set e0, if_neg (by omega), a1]; rfl
    have e2 : (((w.setCell ⟨B, 0, none⟩ y0).setCell ⟨B, 1, none⟩ y1).cell? ⟨B, 2, none⟩).isSome = true := by rw [cell_set e1, if_neg (by omega), cell_set e0, if_neg (by omega), a2]; rfl
    have e3 : ((((w.setCell ⟨B, 0, none⟩ y0).setCell ⟨B, 1, none⟩ y1).setCell ⟨B, 2, none⟩ y2).cell? ⟨B, 3, none⟩).isSome = true := by rw [cell_set e2, if_neg (by omega), cell_set e1, if_neg (by omega), cell_set e0, if_neg (by omega), a3]; rfl
    have e4 : (((((w.setCell ⟨B, 0, none⟩ y0).setCell ⟨B, 1, none⟩ y1).setCell ⟨B, 2, none⟩ y2).setCell ⟨B, 3, none⟩ y3).cell? ⟨B, 4, none⟩).isSome = true := by rw [cell_set e3, if_neg (by omega), cell_set e2, if_neg (by omega), cell_set e1, if_neg (by omega), cell_set e0, if_neg (by omega), a4]; rfl
    rw [cell_set e4, cell_set e3, cell_set e2, cell_set e1, cell_set e0]
  refine ⟨⟨⟨by rw [p]; rfl, by rw [p]; rfl, by rw [p]; rfl, by rw [p]; rfl, by rw [p]; rfl⟩, ?_⟩, fun Z => ?_⟩
  · simp only [World.frozen?_setCell]
    exact ⟨f0, f1, f2, f3, f4⟩
  · exact ((((BelowBut.setCell w _ _).trans (BelowBut.setCell _ _ _)).trans (BelowBut.setCell _ _ _)).trans (BelowBut.setCell _ _ _)).trans (BelowBut.setCell _ _ _)
theorem fiveAt_new (w : World) (x0 x1 x2 x3 x4 : Value) (T : TypeId) : FiveAt (w.alloc (.cells #[x0, x1, x2, x3, x4] T)) w.heap.size x0 x1 x2 x3 x4 :=
  ⟨⟨by rw [World.cell?_alloc_new]; rfl, by rw [World.cell?_alloc_new]; rfl, by rw [World.cell?_alloc_new]; rfl, by rw [World.cell?_alloc_new]; rfl, by rw [World.cell?_alloc_new]; rfl⟩, World.frozen?_alloc_new _ _ _ _, World.frozen?_alloc_new _ _ _ _, World.frozen?_alloc_new _ _ _ _, World.frozen?_alloc_new _ _ _ _, World.frozen?_alloc_new _ _ _ _⟩

theorem Tree.head {w : World} {t : Tr} {v : Value} (h : Tree w t v) : ∃ an cn ak ck, v = .agg #[.int .i64 t.kind, .int .i64 t.num, .string t.text, .slice an t.names.length cn, .slice ak t.kids.length ck] := by
  obtain ⟨k, n, tx, nm, ks⟩ := t
  obtain ⟨an, cn, ak, ck, rfl, _⟩ := h.open
  exact ⟨an, cn, ak, ck, rfl⟩
theorem Tree.kid {w : World} {t x : Tr} {an cn ak ck i : _} (h : Tree w t (.agg #[.int .i64 t.kind, .int .i64 t.num, .string t.text, .slice an t.names.length cn, .slice ak t.kids.length ck])) (hx : t.kids[i]? = some x) :
    ∃ g, ak = some ⟨g, 0, none⟩ ∧ g < w.heap.size ∧ KidAt w (fun _ => True) x g i := by
  obtain ⟨k, n, tx, nm, ks⟩ := t
  obtain ⟨an', cn', ak', ck', e, _, hk⟩ := h.open
  simp only [Value.agg.injEq, Array.mk.injEq, List.cons.injEq, and_true] at e
  obtain ⟨_, _, _, _, e⟩ := e
  obtain ⟨rfl, _, _⟩ : ak = ak' ∧ _ ∧ ck = ck' := by simpa using e
  rcases hk with h0 | ⟨g, rfl, hg, hkid⟩
  · have : ([] : List Tr)[i]? = some x := by rw [← h0]; exact hx
    simp at this
  · exact ⟨g, rfl, hg, hkid i x hx⟩

/-- WHAT l3Get ANSWERS. -/
def GotIs (t : Tr) (l : List ByteArray) (w : World) (e : Ending) (w' : World) : Prop :=
  ∃ (k n : Int) (tx : ByteArray) (an : Option Addr) (mn cn : Nat) (ak : Option Addr) (mk ck : Nat), e = .returned (.tuple #[.agg #[.int .i64 k, .int .i64 n, .string tx, .slice an mn cn, .slice ak mk ck], .bool (getT t l).isSome]) ∧ (∀ x, getT t l = some x → Tree w' x (.agg #[.int .i64 k, .int .i64 n, .string tx, .slice an mn cn, .slice ak mk ck])) ∧ Below w.heap.size w w'

end Go.Proofs.YtjohocnfcnjciaaGreatDoor
namespace Go.Proofs.YtjohocnfcnjciaaGreatDoor
open Go.RowKit
set_option linter.unusedVariables false

theorem good_pre {N : Nat → Nd} {n : Nat} (h : GoodV N n) : Pre N n := h.1.2.2.pre
theorem text_empty {t : ByteArray} (h : noText t = true) : t = ByteArray.empty := by
  have h0 : t.toList = [] := List.isEmpty_iff.1 h
  rw [ByteArray.toList_eq] at h0
  cases t with
  | mk a => cases a with
    | mk l => simp at h0; subst h0; rfl
theorem good_noNames {N : Nat → Nd} {n : Nat} (h : GoodV N n) : NoNames N n := fun p h0 hp hk => by
  rcases (h.1.2.2 p hp).2.1 with ⟨e, _⟩ | ⟨_, _, _, _, ⟨_, h⟩ | ⟨h, _⟩⟩
  · omega
  · exact text_empty h
  · exact absurd h hk
theorem good_zero {N : Nat → Nd} {n : Nat} (h : GoodV N n) : (N 0).name = ByteArray.empty := by
  rcases (h.1.2.2 0 h.1.1).2.1 with ⟨_, _, h⟩ | ⟨h, _⟩
  · exact text_empty h
  · omega
theorem good_flat {N : Nat → Nd} {n : Nat} (h : GoodV N n) : (tree N n 0).flat ByteArray.empty (-1) 0 = (List.range n).map N := flat_whole (good_pre h) (good_noNames h) h.1.1 (good_zero h)
theorem good_cnt {N : Nat → Nd} {n : Nat} (h : GoodV N n) : (tree N n 0).cnt = n := by
  have := congrArg List.length (good_flat h)
  rw [Tr.flat_length] at this
  simpa using this
end Go.Proofs.YtjohocnfcnjciaaGreatDoor
namespace Go.Proofs.YtjohocnfcnjciaaGreatDoor
open Go.RowKit
set_option linter.unusedVariables false

/-- Only a list and a map have parts. -/
theorem good_kids {N : Nat → Nd} {n k p : Nat} (h : GoodV N n) (hp : p ∈ kidsTo N k n) : (N k).kind = 6 ∨ (N k).kind = 7 := by
  obtain ⟨h1, h2, h3⟩ := kidsTo_mem hp
  have hpar : par N p = k := by unfold par; rw [h3]; rfl
  rcases (h.1.2.2 p h2).2.1 with ⟨e, _⟩ | ⟨_, _, _, _, ⟨h, _⟩ | ⟨h, _⟩⟩
  · omega
  · rw [hpar] at h; exact .inl h
  · rw [hpar] at h; exact .inr h
theorem good_up {N : Nat → Nd} {n : Nat} (h : GoodV N n) : ∀ i, i < n → (N i).up < (i : Int) := fun i hi => by
  have hp := good_pre h
  by_cases h0 : i = 0
  · subst h0
    rw [hp.1 hi]
    decide
  · exact (hp.2 i (by omega) hi).2.1

theorem parts_at {N : Nat → Nd} {k n i p : Nat} (h : (kidsTo N k n)[i]? = some p) : (partsTo N k n)[i]? = some (nmAt N k i p, p) := by
  unfold partsTo
  rw [List.getElem?_map, List.getElem?_zipIdx, h]
  simp

theorem hit_is {N : Nat → Nd} {n k i p : Nat} (hg : GoodV N n) (nm : ByteArray) (h : (kidsTo N k n)[i]? = some p) : hitI (N k).kind (kidNames N k (kidsTo N k n)) nm i = ((nmAt N k i p).toList == nm.toList) := by
  rcases good_kids hg (List.mem_of_getElem? h) with h6 | h7
  · unfold hitI nmAt
    rw [if_pos h6, h6]
    simp
  · have hn : (kidNames N k (kidsTo N k n)).getD i ByteArray.empty = (N p).name := by
      unfold kidNames
      rw [if_pos h7, List.getD_eq_getElem?_getD, List.getElem?_map, h]
      rfl
    unfold hitI nmAt
    rw [hn, if_neg (by rw [h7]; decide), h7]
    simp

theorem find_at {N : Nat → Nd} {n k : Nat} (hg : GoodV N n) (nm : ByteArray) : findP (partsTo N k n) nm = (atI (N k).kind (kidNames N k (kidsTo N k n)) nm (kidsTo N k n).length).bind fun i => (kidsTo N k n)[i]? := by
  cases ha : atI (N k).kind (kidNames N k (kidsTo N k n)) nm (kidsTo N k n).length with
  | none =>
    have hno : noneOf nm (partsTo N k n) := fun x hx => by
      obtain ⟨i, hi⟩ := List.mem_iff_getElem?.1 hx
      have hil : i < (kidsTo N k n).length := by
        have := (List.getElem?_eq_some_iff.1 hi).1
        rwa [partsTo_len] at this
      have hp : (kidsTo N k n)[i]? = some (kidsTo N k n)[i] := List.getElem?_eq_getElem hil
      have e := (parts_at hp).symm.trans hi
      obtain rfl := Option.some.inj e
      have := List.find?_eq_none.1 ha i (List.mem_range.2 hil)
      rw [hit_is hg nm hp] at this
      simpa using this
    rw [find_none hno]
    rfl
  | some i =>
    have hil := atI_lt ha
    have hp : (kidsTo N k n)[i]? = some (kidsTo N k n)[i] := List.getElem?_eq_getElem hil
    have hh : hitI (N k).kind (kidNames N k (kidsTo N k n)) nm i = true := List.find?_some ha
    have hit : hitOf nm ((partsTo N k n).take (i + 1)) := by
      refine ⟨(partsTo N k n).take i, (nmAt N k i (kidsTo N k n)[i], (kidsTo N k n)[i]), ?_, fun x hx => ?_, ?_⟩
      · rw [List.take_add_one, parts_at hp]; rfl
      · obtain ⟨j, hj⟩ := List.mem_iff_getElem?.1 hx
        have hjl := (List.getElem?_eq_some_iff.1 hj).1
        rw [List.length_take] at hjl
        have hji : j < i := by omega
        rw [List.getElem?_take_of_lt hji] at hj
        have hpj : (kidsTo N k n)[j]? = some (kidsTo N k n)[j] := List.getElem?_eq_getElem (by omega)
        have e := (parts_at hpj).symm.trans hj
        obtain rfl := Option.some.inj e
        have hne : hitI (N k).kind (kidNames N k (kidsTo N k n)) nm j = false := by
          have := (List.find?_range_eq_some.1 ha).2.2 j hji
          simpa using this
        rw [hit_is hg nm hpj] at hne
        exact hne
      · rw [← hit_is hg nm hp]; exact hh
    rw [find_hit hit (List.take_prefix _ _)]
    show some (lastN _) = (kidsTo N k n)[i]?
    rw [hp]
    congr 1
    unfold lastN
    rw [List.take_add_one, parts_at hp]
    simp

/-- BY NODES AND BY TREES THE SAME IS FOUND. -/
theorem get_go {N : Nat → Nd} {n : Nat} (hg : GoodV N n) : ∀ (l : List ByteArray) (k : Nat), k < n → getT (tree N n k) l = (goN N n k l).map (tree N n) := by
  intro l
  induction l with
  | nil => intro k hk; rfl
  | cons nm r ih =>
    intro k hk
    rw [goN, find_at hg nm, tree_eq hk, getT]
    show (atI (N k).kind (kidNames N k (kidsTo N k n)) nm ((kidsTo N k n).map (tree N n)).length).bind _ = _
    rw [List.length_map]
    cases ha : atI (N k).kind (kidNames N k (kidsTo N k n)) nm (kidsTo N k n).length with
    | none => rfl
    | some i =>
      have hil := atI_lt ha
      have hp : (kidsTo N k n)[i]? = some (kidsTo N k n)[i] := List.getElem?_eq_getElem hil
      have hm := kidsTo_mem (List.mem_of_getElem? hp)
      show (((kidsTo N k n).map (tree N n))[i]?).bind _ = Option.map _ (((kidsTo N k n)[i]?).bind _)
      rw [List.getElem?_map, hp]
      exact ih _ hm.2.1

end Go.Proofs.YtjohocnfcnjciaaGreatDoor
namespace Go.Proofs.YtjohocnfcnjciaaGreatDoor
open Go.RowKit
set_option linter.unusedVariables false

/-- The nodes of k up to q, by themselves. -/
def subTo (N : Nat → Nd) (k q : Nat) : List Nd := ⟨(N k).kind, (N k).num, (N k).text, ⟨#[]⟩, -1⟩ :: seg N k (k + 1) q
theorem subTo_len (N : Nat → Nd) (k q : Nat) : (subTo N k q).length = q - (k + 1) + 1 := by unfold subTo; rw [List.length_cons, seg_len]
theorem subTo_snoc {N : Nat → Nd} {k q : Nat} (h : k < q) : subTo N k (q + 1) = subTo N k q ++ [{ N q with up := (N q).up - k }] := by
  unfold subTo
  rw [seg_cat N k (a := k + 1) (m := q) (e := q + 1) (by omega) (by omega), seg_cons N k (Nat.lt_succ_self q), seg_nil]
  rfl

/-- WHAT SubOf ANSWERS. -/
def STold (N : Nat → Nd) (n : Nat) (z : Int) (q : Bool) (L : List Nd) : Prop := (q = true ∧ HasN N n z ∧ ∃ e, IsEnd N n z.toNat e ∧ L = subTo N z.toNat e) ∨ (q = false ∧ ¬ HasN N n z ∧ L = [])
theorem STold.same {N : Nat → Nd} {n : Nat} {z : Int} {q r : Bool} {L M : List Nd} (h : STold N n z q L) (k : STold N n z r M) : q = r ∧ L = M := by
  rcases h with ⟨rfl, g, e, he, rfl⟩ | ⟨rfl, g, rfl⟩ <;> rcases k with ⟨rfl, g', e', he', rfl⟩ | ⟨rfl, g', rfl⟩
  · rw [end_unique he he']; exact ⟨rfl, rfl⟩
  · exact absurd g g'
  · exact absurd g' g
  · exact ⟨rfl, rfl⟩

/-- A row of nodes of the call's own, as a value's. -/
theorem OwnsN.own {w : World} {B : Nat} {v : Value} {L : List Nd} (h : OwnsN w B v L) (hl : L.length ≤ 2 ^ 30) : ∃ b, (L ≠ [] → B ≤ b ∧ b < w.heap.size) ∧ OwnAt w b v L.length (fun i => L.getD i ⟨0, 0, ⟨#[]⟩, ⟨#[]⟩, 0⟩) := by
  have hc := @World.ownsRow.cells _ _ _ _ _ _ _ h
  have hlt := @World.ownsRow.lt _ _ _ _ _ _ _ h
  rcases h.2 with ⟨rfl, e⟩ | ⟨g, cap, cur, rfl, hg, hh, hcap, _, hcs, _⟩
  · exact ⟨0, fun hn => absurd (List.eq_nil_of_length_eq_zero e) hn, none, 0, 0, by rw [e], hl, .inl e⟩
  · refine ⟨g, fun _ => hlt g rfl, _, cap, 0, rfl, hl, .inr ⟨rfl, (hlt g rfl).2, fun i hi => ?_, fun o ho => ?_⟩⟩
    · have hget : ∀ (l : List Nd) (i : Nat) (hi : i < l.length), (ndCells l)[i * 5]? = some (.int .i64 l[i].kind) ∧ (ndCells l)[i * 5 + 1]? = some (.int .i64 l[i].num) ∧ (ndCells l)[i * 5 + 2]? = some (.string l[i].text) ∧ (ndCells l)[i * 5 + 3]? = some (.string l[i].name) ∧ (ndCells l)[i * 5 + 4]? = some (.int .i64 l[i].up) := by
        intro l
        induction l with
        | nil => intro i hi; simp at hi
        | cons y l ih =>
          intro i hi
          have hcc : ndCells (y :: l) = [.int .i64 y.kind, .int .i64 y.num, .string y.text, .string y.name, .int .i64 y.up] ++ ndCells l := by simp [ndCells]
          rw [hcc]
          cases i with
          | zero => simp
          | succ i =>
            have := ih i (by simpa using hi)
            have e : ∀ j, ([Value.int .i64 y.kind, .int .i64 y.num, .string y.text, .string y.name, .int .i64 y.up] ++ ndCells l)[(i + 1) * 5 + j]? = (ndCells l)[i * 5 + j]? := fun j => by
              rw [List.getElem?_append_right (by simp; omega)]
              congr 1
              simp
              omega
            exact ⟨(e 0).trans this.1, (e 1).trans this.2.1, (e 2).trans this.2.2.1, (e 3).trans this.2.2.2.1, (e 4).trans this.2.2.2.2⟩
      have hadd : ∀ j : Nat, (⟨g, 0, none⟩ : Addr).add j = ⟨g, j, none⟩ := fun j => by unfold Addr.add; split <;> simp_all
      obtain ⟨q0, q1, q2, q3, q4⟩ := hget L i hi
      have hcc := fun j u hu => (hadd j) ▸ hc (g := g) rfl j u hu
      have eL : L.getD i ⟨0, 0, ⟨#[]⟩, ⟨#[]⟩, 0⟩ = L[i] := by rw [List.getD_eq_getElem?_getD, List.getElem?_eq_getElem hi]; rfl
      simp only [Nat.zero_add, eL]
      exact ⟨hcc _ _ q0, hcc _ _ q1, hcc _ _ q2, hcc _ _ q3, hcc _ _ q4⟩
    · simp [World.frozen?, hh]

def SubIs (N : Nat → Nd) (n : Nat) (z : Int) (w : World) (e : Ending) (w' : World) : Prop :=
  ∃ v q b L, e = .returned (.tuple #[.agg #[v], .bool q]) ∧ STold N n z q L ∧ (L ≠ [] → w.heap.size ≤ b ∧ b < w'.heap.size) ∧ OwnAt w' b v L.length (fun i => L.getD i ⟨0, 0, ⟨#[]⟩, ⟨#[]⟩, 0⟩) ∧ Below w.heap.size w w'

theorem SubIs.no {N : Nat → Nd} {n : Nat} {z : Int} {w w' : World} (h : ¬ HasN N n z) (hb : Below w.heap.size w w') : SubIs N n z w (.returned (.tuple #[.agg #[.slice none 0 0], .bool false])) w' :=
  ⟨_, _, 0, [], rfl, .inr ⟨rfl, h, rfl⟩, fun h => absurd rfl h, ⟨none, 0, 0, rfl, by decide, .inl rfl⟩, hb⟩
theorem SubIs.yes {N : Nat → Nd} {n k e B : Nat} {w w' : World} {v : Value} (h : HasN N n k) (he : IsEnd N n k e) (hB : w.heap.size ≤ B) (hn : n ≤ 2 ^ 20) (ho : OwnsN w' B v (subTo N k e)) (hb : Below w.heap.size w w') : SubIs N n k w (.returned (.tuple #[.agg #[v], .bool true])) w' := by
  obtain ⟨b, h1, h2⟩ := ho.own (by rw [subTo_len]; have := he.2.1; omega)
  exact ⟨v, true, b, subTo N k e, rfl, .inl ⟨rfl, h, e, by simpa using he, by simp⟩, fun hn => ⟨Nat.le_trans hB (h1 hn).1, (h1 hn).2⟩, h2, hb⟩

/-- The trees of nodes name their parts. -/
theorem tree_named (N : Nat → Nd) (n : Nat) : ∀ d k, n - k = d → k < n → (tree N n k).named := by
  intro d
  induction d using Nat.strongRecOn with
  | _ d ih =>
    intro k hd hk
    rw [tree_eq hk, Tr.named]
    refine ⟨fun h7 => by unfold kidNames; rw [if_pos h7]; simp, Tr.nameds_mem.2 fun t ht => ?_⟩
    obtain ⟨p, hp, rfl⟩ := List.mem_map.1 ht
    obtain ⟨p1, p2, p3⟩ := kidsTo_mem hp
    exact ih (n - p) (by omega) p rfl p2
theorem tree_sub {N : Nat → Nd} {n k e : Nat} (h : GoodV N n) (hk : k < n) (he : IsEnd N n k e) : (tree N n k).flat ⟨#[]⟩ (-1) 0 = subTo N k e := by
  rw [flat_tree (good_pre h) (good_noNames h) (n - k) k rfl hk e he]
  simp [subTo]
theorem tree_cnt_le {N : Nat → Nd} {n k : Nat} (h : GoodV N n) (hk : k < n) : (tree N n k).cnt ≤ n := by
  obtain ⟨e, he⟩ := end_of (N := N) hk
  have := congrArg List.length (tree_sub h hk he)
  rw [Tr.flat_length, subTo_len] at this
  have := he.2.1
  omega

end Go.Proofs.YtjohocnfcnjciaaGreatDoor
namespace Go.Proofs.YtjohocnfcnjciaaGreatDoor
open Go.RowKit
set_option linter.unusedVariables false

def nmsL (s : ByteArray) : List ByteArray := lst (namesF s.data.toList) (namesN s.data.toList)
/-- A value and a path of which it may be asked. -/
def AskedOf (N : Nat → Nd) (n : Nat) (s : ByteArray) : Prop := GoodV N n ∧ (namesL s.data.toList).isSome = true
theorem names60 (l : List UInt8) : namesN l ≤ 61 := by
  unfold namesN
  by_cases h : l.length ≤ 60
  · rw [names_pairs l h]
    split
    · show ((pairsL l).map _).length ≤ 61
      rw [List.length_map]
      have := pairs_len l
      omega
    · simp
  · have : namesL l = none := by
      unfold namesL
      rw [if_neg (fun k => h k.1)]
    rw [this]
    simp
theorem OwnS.argv {w : World} {g : Nat} {a : Option Addr} {n c : Nat} {f : Nat → ByteArray} (h : OwnS w g (.slice a n c) n f) : ArgS w a n f := h.arg

end Go.Proofs.YtjohocnfcnjciaaGreatDoor
namespace Go.Proofs.YtjohocnfcnjciaaGreatDoor
open Go.RowKit
set_option linter.unusedVariables false

/-- The nodes of a whole value as those of a part that begins at p. -/
def partN (X : Nat → Nd) (p ar : Nat) (y : ByteArray) (i : Nat) : Nd := if i = 0 then { X 0 with name := y, up := (ar : Int) } else { X i with up := (X i).up + p }
def partL (X : Nat → Nd) (m p ar : Nat) (y : ByteArray) : List Nd := (List.range m).map (partN X p ar y)
theorem partL_len (X : Nat → Nd) (m p ar : Nat) (y : ByteArray) : (partL X m p ar y).length = m := by simp [partL]

end Go.Proofs.YtjohocnfcnjciaaGreatDoor
namespace Go.Proofs.YtjohocnfcnjciaaGreatDoor
open Go.RowKit
set_option linter.unusedVariables false

theorem good_content {x : Nd} (h : contentB x = true) : (x.kind ≠ 4 → x.num = 0) ∧ (x.kind ≠ 5 → x.text = ByteArray.empty) := by
  unfold contentB at h
  by_cases h4 : x.kind = 4
  · rw [if_pos h4] at h
    simp only [Bool.and_eq_true, decide_eq_true_eq] at h
    exact ⟨fun h' => absurd h4 h', fun _ => text_empty h.2⟩
  · rw [if_neg h4] at h
    by_cases h5 : x.kind = 5
    · rw [if_pos h5] at h
      simp only [Bool.and_eq_true, decide_eq_true_eq] at h
      exact ⟨fun _ => h.1, fun h' => absurd h5 h'⟩
    · rw [if_neg h5] at h
      by_cases hk : x.kind = 1 ∨ x.kind = 2 ∨ x.kind = 3 ∨ x.kind = 6 ∨ x.kind = 7
      · rw [if_pos hk] at h
        simp only [Bool.and_eq_true, decide_eq_true_eq] at h
        exact ⟨fun _ => h.1, fun _ => text_empty h.2⟩
      · rw [if_neg hk] at h
        simp at h
theorem good_ok {N : Nat → Nd} {n : Nat} (h : GoodV N n) : (tree N n 0).ok := by
  refine tree_ok (fun i hi => good_content (h.1.2.2 i hi).1) (fun i h0 hi => ?_) n 0 rfl h.1.1
  rcases (h.1.2.2 i hi).2.1 with ⟨e, _⟩ | ⟨_, _, _, _, ⟨h, _⟩ | ⟨h, _⟩⟩
  · omega
  · exact .inl h
  · exact .inr h
theorem good_okAt {N : Nat → Nd} {n k : Nat} (h : GoodV N n) (hk : k < n) : (tree N n k).ok := by
  refine tree_ok (fun i hi => good_content (h.1.2.2 i hi).1) (fun i h0 hi => ?_) (n - k) k rfl hk
  rcases (h.1.2.2 i hi).2.1 with ⟨e, _⟩ | ⟨_, _, _, _, ⟨h, _⟩ | ⟨h, _⟩⟩
  · omega
  · exact .inl h
  · exact .inr h

end Go.Proofs.YtjohocnfcnjciaaGreatDoor
