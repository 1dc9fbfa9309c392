/- How clauses lie in memory. Rows of clauses while they are built. What a type assertion on a clause answers. The program's clauseAt: the clause of a filter's term. The clause of a whole filter by the program. -/
import Derived.Test.YtjbjgkkkkghcgaaGreatDoorQClT
import Derived.Test.YtjbjgkkkkghcgaaGreatDoorQPlN
import Derived.Test.YtjbjgkkkkghcgaaGreatDoorQuote
namespace Go.Proofs.YtjbjgkkkkghcgaaGreatDoor
open Go.RowKit
set_option linter.unusedVariables false

/-- The cells are the term, and its value's slice has room for its nodes. -/
def TermC (w : World) (c : Tc) (x : Tm) : Prop := TermIs w c x ∧ c.vn ≤ c.vc
/-- Every term's value has room for its nodes. -/
def CapF (w : World) (a : Option Addr) (t : Nat) : Prop := ∀ b off, a = some ⟨b, off, none⟩ → ∀ i, i < t → ∀ va vn vc, w.cell? ⟨b, off + i * 4 + 2, none⟩ = some (.slice va vn vc) → vn ≤ vc
theorem CapF.below {w w' : World} {a : Option Addr} {t : Nat} {F : Nat → Tm} (h : CapF w a t) (hF : FArg w a t F) (hb : Below w.heap.size w w') : CapF w' a t := fun b off e i hi va vn vc hc => by
  rcases hF with h0 | ⟨b', off', R, e', hlt, _⟩
  · omega
  · rw [e] at e'
    injection e' with e'
    injection e' with e1 e2
    subst e1 e2
    exact h b off e i hi va vn vc (by rw [← hc, hb.cell hlt])
theorem FOwn.caps {w : World} {b : Nat} {a : Option Addr} {t : Nat} {F : Nat → Tm} {P Q : Nat → Nat} (h : FOwn w b a t F P Q) : CapF w a t := fun b' off e i hi va vn vc hc => by
  obtain ⟨_, h2, _, _⟩ := h
  rcases h2 with h0 | ⟨e', hlt, R, h5, h6, h7⟩
  · omega
  · rw [e] at e'
    injection e' with e'
    injection e' with e1 e2
    subst e1 e2
    have h8 := (h5 i hi).2.2.1
    rw [hc] at h8
    injection h8 with h8
    injection h8 with _ e4 e5
    have h9 := (h7 i hi)
    obtain ⟨_, _, h10, _, h11⟩ := h9
    have h12 := (h7 i hi).is.2.2.1
    omega

mutual
/-- The value v is the clause: its terms as they came in (w0), its rows in blocks of S. -/
def ClIs (w0 w : World) (S : Nat → Prop) : Cl → Value → Prop
  | .leaf x, v => ∃ c : Tc, v = .iface 80 (.agg #[.int .i64 c.kind, .string c.path, .slice c.va c.vn c.vc, .slice c.ka c.km c.kc]) ∧ TermC w0 c x
  | .all l, v => ∃ a c, v = .iface 84 (.agg #[.slice a l.length c]) ∧ (l = [] ∨ ∃ g, a = some ⟨g, 0, none⟩ ∧ S g ∧ g < w.heap.size ∧ ClsAt w0 w S l g 0)
  | .any l, v => ∃ a c, v = .iface 102 (.agg #[.slice a l.length c]) ∧ (l = [] ∨ ∃ g, a = some ⟨g, 0, none⟩ ∧ S g ∧ g < w.heap.size ∧ ClsAt w0 w S l g 0)
  | .neg c, v => ∃ u, v = .iface 104 (.agg #[u]) ∧ ClIs w0 w S c u
def ClsAt (w0 w : World) (S : Nat → Prop) : List Cl → Nat → Nat → Prop
  | [], _, _ => True
  | c :: l, g, j => (∃ u, w.cell? ⟨g, j, none⟩ = some u ∧ ClIs w0 w S c u) ∧ ClsAt w0 w S l g (j + 1)
end

mutual
theorem ClIs.keep {w0 w w' : World} {S S' : Nat → Prop} (hk : ∀ b, S b → b < w.heap.size → w'.heap[b]? = w.heap[b]?) (hS : ∀ b, S b → b < w.heap.size → S' b) (hz : w.heap.size ≤ w'.heap.size) : ∀ (c : Cl) (v : Value), ClIs w0 w S c v → ClIs w0 w' S' c v
  | .leaf x, v, h => by rw [ClIs] at h ⊢; exact h
  | .all l, v, h => by
    rw [ClIs] at h ⊢
    obtain ⟨a, c, e, h0 | ⟨g, ea, h1, h2, h3⟩⟩ := h
    · exact ⟨a, c, e, .inl h0⟩
    · exact ⟨a, c, e, .inr ⟨g, ea, hS g h1 h2, by omega, ClsAt.keep hk hS hz l g 0 h1 h2 h3⟩⟩
  | .any l, v, h => by
    rw [ClIs] at h ⊢
    obtain ⟨a, c, e, h0 | ⟨g, ea, h1, h2, h3⟩⟩ := h
    · exact ⟨a, c, e, .inl h0⟩
    · exact ⟨a, c, e, .inr ⟨g, ea, hS g h1 h2, by omega, ClsAt.keep hk hS hz l g 0 h1 h2 h3⟩⟩
  | .neg c, v, h => by
    rw [ClIs] at h ⊢
    obtain ⟨u, e, h1⟩ := h
    exact ⟨u, e, ClIs.keep hk hS hz c u h1⟩
theorem ClsAt.keep {w0 w w' : World} {S S' : Nat → Prop} (hk : ∀ b, S b → b < w.heap.size → w'.heap[b]? = w.heap[b]?) (hS : ∀ b, S b → b < w.heap.size → S' b) (hz : w.heap.size ≤ w'.heap.size) : ∀ (l : List Cl) (g j : Nat), S g → g < w.heap.size → ClsAt w0 w S l g j → ClsAt w0 w' S' l g j
  | [], g, j, _, _, _ => by rw [ClsAt]; trivial
  | c :: l, g, j, h1, h2, h => by
    rw [ClsAt] at h ⊢
    obtain ⟨⟨u, hu, hc⟩, hl⟩ := h
    exact ⟨⟨u, (World.cell?_of_block (hk g h1 h2)).trans hu, ClIs.keep hk hS hz c u hc⟩, ClsAt.keep hk hS hz l g (j + 1) h1 h2 hl⟩
end

theorem clsAt_iff {w0 w : World} {S : Nat → Prop} {g : Nat} : ∀ {l : List Cl} {j : Nat}, ClsAt w0 w S l g j ↔ ∀ i c, l[i]? = some c → ∃ u, w.cell? ⟨g, j + i, none⟩ = some u ∧ ClIs w0 w S c u := by
  intro l
  induction l with
  | nil => intro j; simp [ClsAt]
  | cons a l ih =>
    intro j
    rw [ClsAt, ih]
    constructor
    · rintro ⟨h, hs⟩ i c hc
      cases i with
      | zero =>
        simp at hc
        subst hc
        exact h
      | succ i =>
        have := hs i c (by simpa using hc)
        rwa [show j + 1 + i = j + (i + 1) by omega] at this
    · intro h
      refine ⟨h 0 a (by simp), fun i c hc => ?_⟩
      have := h (i + 1) c (by simpa using hc)
      rwa [show j + (i + 1) = j + 1 + i by omega] at this

end Go.Proofs.YtjbjgkkkkghcgaaGreatDoor
namespace Go.Proofs.YtjbjgkkkkghcgaaGreatDoor
open Go.RowKit
set_option linter.unusedVariables false

/-- A clause is of one cell. -/
theorem ClIs.one {w0 w : World} {S : Nat → Prop} {c : Cl} {v : Value} (h : ClIs w0 w S c v) : v.oneCell' = true := by
  cases c with
  | leaf x => rw [ClIs] at h; obtain ⟨c, rfl, _⟩ := h; rfl
  | all l => rw [ClIs] at h; obtain ⟨a, c, rfl, _⟩ := h; rfl
  | any l => rw [ClIs] at h; obtain ⟨a, c, rfl, _⟩ := h; rfl
  | neg c => rw [ClIs] at h; obtain ⟨u, rfl, _⟩ := h; rfl

theorem ClIs.form {w0 w : World} {S : Nat → Prop} {c : Cl} {v : Value} (h : ClIs w0 w S c v) : ∃ T u, v = .iface T u := by
  cases c with
  | leaf x => rw [ClIs] at h; obtain ⟨c, rfl, _⟩ := h; exact ⟨_, _, rfl⟩
  | all l => rw [ClIs] at h; obtain ⟨a, c, rfl, _⟩ := h; exact ⟨_, _, rfl⟩
  | any l => rw [ClIs] at h; obtain ⟨a, c, rfl, _⟩ := h; exact ⟨_, _, rfl⟩
  | neg c => rw [ClIs] at h; obtain ⟨u, rfl, _⟩ := h; exact ⟨_, _, rfl⟩

/-- A row of clauses l, of its own from B on, while it is built; its cells told. -/
def CBldR (w0 w : World) (B : Nat) (v : Value) (l : List Cl) (xs : List Value) : Prop := xs.length = l.length ∧ w.ownsRow B 47 1 v l.length xs ∧ ∀ (i : Nat) (c : Cl) (u : Value), l[i]? = some c → xs[i]? = some u → ClIs w0 w (fun b => B ≤ b ∧ v.ownBlock ≠ some b) c u
def CBld (w0 w : World) (B : Nat) (v : Value) (l : List Cl) : Prop := ∃ xs, CBldR w0 w B v l xs
theorem CBld.nil (w0 w : World) (B : Nat) : CBld w0 w B (.slice none 0 0) [] := ⟨[], rfl, World.ownsRow_nil _ _ _ _, fun i c u h => by simp at h⟩
theorem CBld.form {w0 w : World} {B : Nat} {v : Value} {l : List Cl} (h : CBld w0 w B v l) : ∃ a c, v = .slice a l.length c := by
  obtain ⟨xs, _, h1, _⟩ := h
  rcases row_open h1 with ⟨rfl, h0⟩ | ⟨g, cap, rfl, _⟩
  · exact ⟨_, _, by rw [h0]⟩
  · exact ⟨_, _, rfl⟩
theorem CBldR.old {w0 w : World} {B : Nat} {v : Value} {l : List Cl} {xs : List Value} (h : CBldR w0 w B v l xs) : ∀ q, v.ownBlock = some q → B ≤ q ∧ q < w.heap.size := fun q hq => by
  rcases row_open h.2.1 with ⟨rfl, _⟩ | ⟨g', cap', rfl, g1, g2, _⟩
  · simp [Value.ownBlock] at hq
  · simp [Value.ownBlock] at hq; omega
theorem CBldR.below {w0 w w' : World} {B : Nat} {v : Value} {l : List Cl} {xs : List Value} (h : CBldR w0 w B v l xs) (hb : Below w.heap.size w w') : CBldR w0 w' B v l xs :=
  ⟨h.1, row_keep h.2.1 hb, fun i c u h1 h2 => ClIs.keep (fun b _ hlt => hb.block b hlt) (fun b hS _ => hS) hb.size c u (h.2.2 i c u h1 h2)⟩
theorem CBld.below {w0 w w' : World} {B : Nat} {v : Value} {l : List Cl} (h : CBld w0 w B v l) (hb : Below w.heap.size w w') : CBld w0 w' B v l := by
  obtain ⟨xs, h⟩ := h
  exact ⟨xs, h.below hb⟩

/-- A clause is put to the row. -/
theorem CBldR.next {w0 w w1 w2 w3 : World} {B : Nat} {v : Value} {l : List Cl} {xs : List Value} {c : Cl} {x u : Value} {g cap : Nat} (h : CBldR w0 w B v l xs) (hB : B ≤ w.heap.size) (hb : Below w.heap.size w w1) (hc : ClIs w0 w1 (fun b => w.heap.size ≤ b) c x) (hb2 : Below w1.heap.size w1 w2)
    (hg : w2.grownBy w3 v.ownBlock) (hat : v.ownBlock = some g ∨ w2.heap.size ≤ g) (hu : u = .slice (some ⟨g, 0, none⟩) (l.length + 1) cap)
    (hown : w3.ownsRow B 47 1 u (l.length + 1) (xs ++ [x])) : CBldR w0 w3 B u (l ++ [c]) (xs ++ [x]) := by
  have z1 := hb.size
  have z2 := hb2.size
  have z3 := hg.size
  have hold := h.old
  obtain ⟨h0, h1, h2⟩ := h
  have hblk : ∀ b, b < w2.heap.size → v.ownBlock ≠ some b → w3.heap[b]? = w2.heap[b]? := fun b hlt hne => hg.block b hlt (fun e => hne e.symm)
  have hown' : u.ownBlock = some g := by rw [hu]; rfl
  refine ⟨by simp [h0], by simpa using hown, fun i c' u' hi hx => ?_⟩
  by_cases hlt : i < l.length
  · rw [List.getElem?_append_left hlt] at hi
    rw [List.getElem?_append_left (by omega)] at hx
    refine ClIs.keep (fun b hS hbl => ?_) (fun b hS hbl => ⟨hS.1, ?_⟩) (by omega) c' u' (h2 i c' u' hi hx)
    · rw [hblk b (by omega) hS.2, hb2.block b (by omega), hb.block b hbl]
    · rw [hown']
      intro e
      injection e with e
      rcases hat with h | h
      · exact hS.2 (by rw [h, e])
      · omega
  · obtain rfl : i = l.length := by
      have := (List.getElem?_eq_some_iff.1 hi).1
      simp at this
      omega
    rw [List.getElem?_append_right (Nat.le_refl _)] at hi
    rw [List.getElem?_append_right (by omega)] at hx
    simp at hi
    simp [h0] at hx
    subst hi hx
    refine ClIs.keep (fun b hS hbl => ?_) (fun b hS hbl => ⟨by omega, ?_⟩) (by omega) c x hc
    · rw [hblk b (by omega) (fun e => by have := (hold b e).2; omega), hb2.block b hbl]
    · rw [hown']
      intro e
      injection e with e
      rcases hat with h | h
      · have := (hold g h).2; omega
      · omega

/-- The row as a clause's own. -/
theorem CBld.kids {w0 w : World} {B : Nat} {a : Option Addr} {n c : Nat} {l : List Cl} (h : CBld w0 w B (.slice a n c) l) {S : Nat → Prop} (hS : ∀ b, B ≤ b → S b) : n = l.length ∧ (l = [] ∨ ∃ g, a = some ⟨g, 0, none⟩ ∧ S g ∧ g < w.heap.size ∧ ClsAt w0 w S l g 0) := by
  obtain ⟨xs, h0, h1, h2⟩ := h
  rcases row_open h1 with ⟨e, h3⟩ | ⟨g, cap, e, g1, g2, g3, g4, g5⟩
  · injection e with e1 e2 e3
    exact ⟨by omega, .inl (by cases l with | nil => rfl | cons => simp at h3)⟩
  · injection e with e1 e2 e3
    refine ⟨e2, .inr ⟨g, e1, hS g g1, g2, clsAt_iff.2 fun i c' hi => ?_⟩⟩
    have hlt := (List.getElem?_eq_some_iff.1 hi).1
    obtain ⟨u, hu⟩ : ∃ u, xs[i]? = some u := ⟨_, List.getElem?_eq_getElem (by omega)⟩
    refine ⟨u, ?_, ClIs.keep (fun b _ _ => rfl) (fun b hb _ => hS b hb.1) (Nat.le_refl _) c' u (h2 i c' u hi hu)⟩
    rw [Nat.zero_add, g4 i (by omega), hu]

end Go.Proofs.YtjbjgkkkkghcgaaGreatDoor
namespace Go.Proofs.YtjbjgkkkkghcgaaGreatDoor
open Go.RowKit
set_option linter.unusedVariables false

theorem as_alone_alone (v : Value) (w : World) : (Instr.typeAssert (.iface 80 v) 47 80 true).run Tryz.prog w = .ok (.tuple #[v, .bool true]) w := by kernel_rfl
theorem as_alone_allOf (v : Value) (w : World) : (Instr.typeAssert (.iface 80 v) 47 84 true).run Tryz.prog w = .ok (.tuple #[.agg #[.slice none 0 0], .bool false]) w := by kernel_rfl
theorem as_alone_anyOf (v : Value) (w : World) : (Instr.typeAssert (.iface 80 v) 47 102 true).run Tryz.prog w = .ok (.tuple #[.agg #[.slice none 0 0], .bool false]) w := by kernel_rfl
theorem as_alone_notOf (v : Value) (w : World) : (Instr.typeAssert (.iface 80 v) 47 104 true).run Tryz.prog w = .ok (.tuple #[.agg #[.nilIface], .bool false]) w := by kernel_rfl
theorem as_allOf_alone (v : Value) (w : World) : (Instr.typeAssert (.iface 84 v) 47 80 true).run Tryz.prog w = .ok (.tuple #[.agg #[.int .i64 0, .string ⟨#[]⟩, .slice none 0 0, .slice none 0 0], .bool false]) w := by kernel_rfl
theorem as_allOf_allOf (v : Value) (w : World) : (Instr.typeAssert (.iface 84 v) 47 84 true).run Tryz.prog w = .ok (.tuple #[v, .bool true]) w := by kernel_rfl
theorem as_allOf_anyOf (v : Value) (w : World) : (Instr.typeAssert (.iface 84 v) 47 102 true).run Tryz.prog w = .ok (.tuple #[.agg #[.slice none 0 0], .bool false]) w := by kernel_rfl
theorem as_allOf_notOf (v : Value) (w : World) : (Instr.typeAssert (.iface 84 v) 47 104 true).run Tryz.prog w = .ok (.tuple #[.agg #[.nilIface], .bool false]) w := by kernel_rfl
theorem as_anyOf_alone (v : Value) (w : World) : (Instr.typeAssert (.iface 102 v) 47 80 true).run Tryz.prog w = .ok (.tuple #[.agg #[.int .i64 0, .string ⟨#[]⟩, .slice none 0 0, .slice none 0 0], .bool false]) w := by kernel_rfl
theorem as_anyOf_allOf (v : Value) (w : World) : (Instr.typeAssert (.iface 102 v) 47 84 true).run Tryz.prog w = .ok (.tuple #[.agg #[.slice none 0 0], .bool false]) w := by kernel_rfl
theorem as_anyOf_anyOf (v : Value) (w : World) : (Instr.typeAssert (.iface 102 v) 47 102 true).run Tryz.prog w = .ok (.tuple #[v, .bool true]) w := by kernel_rfl
theorem as_anyOf_notOf (v : Value) (w : World) : (Instr.typeAssert (.iface 102 v) 47 104 true).run Tryz.prog w = .ok (.tuple #[.agg #[.nilIface], .bool false]) w := by kernel_rfl
theorem as_notOf_alone (v : Value) (w : World) : (Instr.typeAssert (.iface 104 v) 47 80 true).run Tryz.prog w = .ok (.tuple #[.agg #[.int .i64 0, .string ⟨#[]⟩, .slice none 0 0, .slice none 0 0], .bool false]) w := by kernel_rfl
theorem as_notOf_allOf (v : Value) (w : World) : (Instr.typeAssert (.iface 104 v) 47 84 true).run Tryz.prog w = .ok (.tuple #[.agg #[.slice none 0 0], .bool false]) w := by kernel_rfl
theorem as_notOf_anyOf (v : Value) (w : World) : (Instr.typeAssert (.iface 104 v) 47 102 true).run Tryz.prog w = .ok (.tuple #[.agg #[.slice none 0 0], .bool false]) w := by kernel_rfl
theorem as_notOf_notOf (v : Value) (w : World) : (Instr.typeAssert (.iface 104 v) 47 104 true).run Tryz.prog w = .ok (.tuple #[v, .bool true]) w := by kernel_rfl

end Go.Proofs.YtjbjgkkkkghcgaaGreatDoor
namespace Go.Proofs.YtjbjgkkkkghcgaaGreatDoor
open Go.RowKit
set_option linter.unusedVariables false

/-- The clauses of the first j kids of term k. -/
def kidsC (F : Nat → Tm) (k j : Nat) : List Cl := (List.range j).map fun i => clF F k ((F k).K i).toNat
theorem kidsC_len (F : Nat → Tm) (k j : Nat) : (kidsC F k j).length = j := by simp [kidsC]
theorem kidsC_succ (F : Nat → Tm) (k j : Nat) : kidsC F k (j + 1) = kidsC F k j ++ [clF F k ((F k).K j).toNat] := by simp [kidsC, List.range_succ]

/-- Every kid lies ahead, and a turned term has one. -/
def Ahead (F : Nat → Tm) (t : Nat) : Prop := (∀ i, i < t → ∀ j, j < (F i).m → 0 ≤ (F i).K j ∧ (F i).K j < i) ∧ (∀ i, i < t → (F i).kind = 8 → 0 < (F i).m) ∧ ∀ i, i < t → (F i).m ≤ 2 ^ 20

theorem infoClause : (Tryz.prog.info? 47).map (fun i => (i.zero, i.size, i.bytes)) = some (some .nilIface, 1, 16) := by kernel_rfl

def ClSaid (w0 : World) (a : Option Addr) (c t : Nat) (F : Nat → Tm) (k : Nat) : Prop := ∀ w, Below w0.heap.size w0 w →
    Calls Tryz.prog 36 #[.slice a t c, .int .i64 k] w fun e w' => ∃ v, e = .returned v ∧ ClIs w0 w' (fun b => w.heap.size ≤ b) (clF F (k + 1) k) v ∧ Below w.heap.size w w'

set_option maxRecDepth 100000 in
set_option maxHeartbeats 4000000 in
theorem clauseAt_step (w0 : World) (a : Option Addr) (c t : Nat) (F : Nat → Tm) (hF : FArg w0 a t F) (hCF : CapF w0 a t) (hA : Ahead F t) (ht : t ≤ 2 ^ 20) (k : Nat) (hk : k < t) (ih : ∀ p, p < k → ClSaid w0 a c t F p) : ClSaid w0 a c t F k := by
  intro w hw
  have HF : Hid (FArg w0 a t F) := hF
  have HA : Hid (Ahead F t) := hA
  have HI : Hid (∀ p, p < k → ClSaid w0 a c t F p) := ih
  have HW : Hid (Below w0.heap.size w0 w) := hw
  obtain ⟨b, off, va, vc, ka, kc, rfl, hb, a0, a1, a2, a3, hv, hkk⟩ := hF.at hk
  have HCP : Hid ((F k).n ≤ vc) := hCF b off rfl k hk _ _ _ a2
  have zW := hw.size
  replace a0 := (hw.cell hb).trans a0
  replace a1 := (hw.cell hb).trans a1
  replace a2 := (hw.cell hb).trans a2
  replace a3 := (hw.cell hb).trans a3
  have m20 : (F k).m ≤ 2 ^ 20 := hA.2.2 k hk
  have HV : Hid (ArgIs w0 va (F k).n (F k).N ∧ ArgI w0 ka (F k).m (F k).K) := ⟨hv, hkk⟩
  have i0 : (0 : Int) ≤ (k : Int) := by omega
  have i1 : (k : Int) < (t : Int) := by omega
  have hbw : b < w.heap.size := by omega
  obtain ⟨iC, hi, hz0, hz1, hz2⟩ := info_parts infoClause
  have HIC : Hid (Tryz.prog.info? 47 = some iC ∧ iC.zero = some .nilIface ∧ iC.size = 1 ∧ iC.bytes = 16) := ⟨hi, hz0, hz1, hz2⟩
  clear hi hz0 hz1 hz2 hF hA ih hw hv hkk
  obtain ⟨m, hm⟩ : ∃ m, m = (F k).m := ⟨_, rfl⟩
  rw [← hm] at a3 m20
  have HM : Hid (m = (F k).m) := hm
  obtain ⟨kd, hkd⟩ : ∃ kd, kd = (F k).kind := ⟨_, rfl⟩
  rw [← hkd] at a0
  have HKD : Hid (kd = (F k).kind) := hkd
  clear hm hkd
  go_enter Tryz.func36, Tryz.ntmps36
  go_wp2_with fail
  go_loopw [5, 14] (fun v i wr => ∃ (j : Nat) (av : Option Addr) (cv : Nat), j ≤ m ∧ i = .int .i64 (j : Int) ∧ v = .slice av j cv ∧ Below w.heap.size w wr ∧ Hid (CBld w0 wr w.heap.size (.slice av j cv) (kidsC F k j))) (fun _ i _ => m - (intOf i).toNat)
  case atStart => exact ⟨0, none, 0, Nat.zero_le _, rfl, rfl, Below.refl _ _, CBld.nil _ _ _⟩
  case round =>
    obtain ⟨j, av, cv, hj, rfl, rfl, hnx, HT⟩ := hrel
    have zr := hnx.size
    by_cases hlt : j < m
    · rcases HV.out.2 with h0 | ⟨b', off', rfl, hb', hat⟩
      · have := HM.out; omega
      have hjm : j < (F k).m := by have := HM.out; omega
      have hB0 : Below w0.heap.size w0 wr := HW.out.trans (hnx.mono zW)
      have d0 := (hB0.cell hb').trans (hat j hjm)
      obtain ⟨k0, k1⟩ := HA.out.1 k hk j hjm
      obtain ⟨p, hp⟩ : ∃ p : Nat, (F k).K j = (p : Int) := ⟨((F k).K j).toNat, by omega⟩
      have hpk : p < k := by omega
      rw [hp] at d0
      have HKS : Hid (kidsC F k (j + 1) = kidsC F k j ++ [clF F (p + 1) p]) := by
        show _ = _
        rw [kidsC_succ, hp, Int.toNat_natCast, clF_same HA.out.1 HA.out.2.1 p (by omega) k (p + 1) hpk (by omega)]
      have j0 : (0 : Int) ≤ (j : Int) := by omega
      have j1 : (j : Int) < (m : Int) := by omega
      have hbw' : b' < wr.heap.size := by omega
      have HB0 : Hid (Below w0.heap.size w0 wr) := hB0
      have HNX : Hid (Below w.heap.size w wr) := hnx
      clear hat hB0 hp k0 k1 hnx
      go_wp2_with fail
      refine (HI.out p hpk wr HB0.out).mono ?_
      rintro e w2 ⟨x, rfl, hc, hb2⟩
      obtain ⟨T, y, rfl⟩ := hc.form
      have z2 := hb2.size
      have hone := hc.one
      obtain ⟨xs, hT⟩ := HT.out
      have hlen := kidsC_len F k j
      have HC2 : Hid (ClIs w0 w2 (fun b => wr.heap.size ≤ b) (clF F (p + 1) p) (.iface T y)) := hc
      have HB2 : Hid (Below wr.heap.size wr w2) := hb2
      have HTR : Hid (CBldR w0 wr w.heap.size (.slice av j cv) (kidsC F k j) xs) := hT
      have HRW : Hid (w2.ownsRow w.heap.size 47 1 (.slice av j cv) j xs) := by
        have := (hT.below hb2).2.1
        rw [hlen] at this
        exact this
      have HONE : Hid (∀ u ∈ [Value.iface T y], u.oneCell' = true) := fun u hu => by simp at hu; rw [hu]; exact hone
      clear hc hb2 hT HT hone hlen
      go_wp2_with (first | (at_builtin; refine wpList_append_lies _ rfl _ _ 82 rfl w.heap.size 47 iC _ 1 16 Tryz.underlying82 HIC.out.1 HIC.out.2.1 HIC.out.2.2.1 HIC.out.2.2.2 rfl (by decide) _ _ _ rfl (HRW.out.alloc _) ⟨w2.heap.size, 0, none⟩ 1 1 [.iface T y] rfl rfl (one_news _ _ _) HONE.out (by decide) ?c3 ?c4 ?c5 (w2.heap.size + 1) ?c6 ?_))
      case c3 => unfold maxLen; omega
      case c4 => omega
      case c5 => simp; omega
      case c6 => simp
      intro g cap w3 hown3 hg3 hat3 hlt3
      have hold := HTR.out.old
      have HT3 : Hid (CBld w0 w3 w.heap.size (.slice (some ⟨g, 0, none⟩) (j + 1) cap) (kidsC F k (j + 1))) := by
        show CBld _ _ _ _ _
        rw [HKS.out]
        refine ⟨xs ++ [.iface T y], CBldR.next (g := g) (cap := cap) HTR.out zr HB2.out HC2.out ((Below.refl _ _).alloc (Nat.le_refl _) _) hg3 ?_ ?_ ?_⟩
        · rcases hat3 with h | h
          · exact .inl h
          · exact .inr (by simp; omega)
        · rw [kidsC_len]
        · rw [kidsC_len]; exact hown3
      have HB3 : Hid (Below w.heap.size w w3) := (HNX.out.trans ((HB2.out.mono zr).trans ((Below.refl _ _).alloc (by omega) _))).grown hg3 (by simp; omega) (fun b hb => (hold b hb).1)
      clear hown3 hg3 hat3 hlt3 hold HTR HRW HC2 HB2 HONE HKS d0
      go_wp2
      go_roundw
      case rel => exact ⟨j + 1, _, cap, by omega, by go_num, rfl, HB3.out, HT3⟩
      case measure => simp [intOf]; omega
    · obtain rfl : j = m := by omega
      replace a0 := (hnx.cell hbw).trans a0
      replace a1 := (hnx.cell hbw).trans a1
      replace a2 := (hnx.cell hbw).trans a2
      replace a3 := (hnx.cell hbw).trans a3
      have hbr : b < wr.heap.size := by omega
      have HNX : Hid (Below w.heap.size w wr) := hnx
      have HCE : Hid (clF F (k + 1) k = if kd = 6 then .all (kidsC F k j) else if kd = 7 then .any (kidsC F k j) else if kd = 8 then .neg (clF F k ((F k).K 0).toNat) else .leaf (F k)) := by
        show _ = _
        rw [HKD.out, HM.out]
        rfl
      clear hnx
      by_cases h6 : kd = 6
      · have HC6 : Hid (clF F (k + 1) k = .all (kidsC F k j)) := HCE.out.trans (if_pos h6)
        clear HCE
        subst h6
        go_wp2_with fail
        go_ret
        refine ⟨_, rfl, ?_, HNX.out⟩
        rw [HC6.out, ClIs]
        have hk2 := HT.out.kids (S := fun b => w.heap.size ≤ b) (fun b hb => hb)
        exact ⟨av, cv, by rw [kidsC_len]; rfl, hk2.2⟩
      · have e6 : (kd == 6) = false := by simpa using h6
        have HC6 : Hid (clF F (k + 1) k = if kd = 7 then .any (kidsC F k j) else if kd = 8 then .neg (clF F k ((F k).K 0).toNat) else .leaf (F k)) := HCE.out.trans (if_neg h6)
        clear HCE
        by_cases h7 : kd = 7
        · have HC7 : Hid (clF F (k + 1) k = .any (kidsC F k j)) := HC6.out.trans (if_pos h7)
          clear HC6
          subst h7
          go_wp2_with fail
          go_ret
          refine ⟨_, rfl, ?_, HNX.out⟩
          rw [HC7.out, ClIs]
          have hk2 := HT.out.kids (S := fun b => w.heap.size ≤ b) (fun b hb => hb)
          exact ⟨av, cv, by rw [kidsC_len]; rfl, hk2.2⟩
        · have e7 : (kd == 7) = false := by simpa using h7
          have HC7 : Hid (clF F (k + 1) k = if kd = 8 then .neg (clF F k ((F k).K 0).toNat) else .leaf (F k)) := HC6.out.trans (if_neg h7)
          clear HC6
          by_cases h8 : kd = 8
          · have HC8 : Hid (clF F (k + 1) k = .neg (clF F k ((F k).K 0).toNat)) := HC7.out.trans (if_pos h8)
            clear HC7
            have hj0 : 0 < j := by rw [HM.out]; exact HA.out.2.1 k hk (by rw [← HKD.out]; exact h8)
            subst h8
            obtain ⟨xs, x0, x1, x2⟩ := HT.out
            have hl0 : (kidsC F k j)[0]? = some (clF F k ((F k).K 0).toNat) := by simp [kidsC, hj0]
            rw [kidsC_len] at x0 x1
            obtain ⟨u, hu⟩ : ∃ u, xs[0]? = some u := ⟨_, List.getElem?_eq_getElem (by omega)⟩
            have hcu := x2 0 _ u hl0 hu
            rcases row_open x1 with ⟨_, h0⟩ | ⟨g, cap, e, g1, g2, g3, g4, g5⟩
            · omega
            injection e with e1 e2 e3
            subst e1 e3
            have c0 := (g4 0 (by omega)).trans hu
            obtain ⟨T, y, rfl⟩ := hcu.form
            have HCU : Hid (ClIs w0 wr (fun b => w.heap.size ≤ b) (clF F k ((F k).K 0).toNat) (.iface T y)) := ClIs.keep (fun b _ _ => rfl) (fun b hb _ => hb.1) (Nat.le_refl _) _ _ hcu
            clear x0 x1 x2 hl0 hu hcu g3 g4 g5 HT
            have j1 : (0 : Int) < (j : Int) := by omega
            go_wp2_with fail
            go_ret
            refine ⟨_, rfl, ?_, HNX.out⟩
            rw [HC8.out, ClIs]
            exact ⟨_, rfl, HCU.out⟩
          · have e8 : (kd == 8) = false := by simpa using h8
            have HC8 : Hid (clF F (k + 1) k = .leaf (F k)) := HC7.out.trans (if_neg h8)
            clear HC7
            go_wp2_with fail
            go_ret
            refine ⟨_, rfl, ?_, HNX.out⟩
            rw [HC8.out, ClIs]
            exact ⟨⟨kd, (F k).path, va, (F k).n, vc, ka, j, kc⟩, rfl, ⟨HKD.out, rfl, rfl, HM.out, HV.out.1, HV.out.2⟩, HCP.out⟩

theorem clauseAt_any (w0 : World) (a : Option Addr) (c t : Nat) (F : Nat → Tm) (hF : FArg w0 a t F) (hCF : CapF w0 a t) (hA : Ahead F t) (ht : t ≤ 2 ^ 20) : ∀ k, k < t → ClSaid w0 a c t F k := by
  intro k
  induction k using Nat.strongRecOn with
  | ind k ih => exact fun hk => clauseAt_step w0 a c t F hF hCF hA ht k hk fun p hp => ih p hp (by omega)

end Go.Proofs.YtjbjgkkkkghcgaaGreatDoor
namespace Go.Proofs.YtjbjgkkkkghcgaaGreatDoor
open Go.RowKit
set_option linter.unusedVariables false

theorem good_ahead {F : Nat → Tm} {t : Nat} (h : GoodF F t) (hs : SmallF t F) : Ahead F t :=
  ⟨fun i hi j hj => ((h.2.1 i hi).2 j hj).1, fun i hi h8 => by rw [not_one h hi h8]; decide, fun i hi => (hs.2 i hi).2.2⟩

set_option maxRecDepth 100000 in
set_option maxHeartbeats 2000000 in
theorem clauseOf_any (w0 : World) (a : Option Addr) (c t : Nat) (F : Nat → Tm) (hF : FArg w0 a t F) (hCF : CapF w0 a t) (hA : Ahead F t) (ht : t ≤ 2 ^ 20) (ht0 : 0 < t) (w : World) (hw : Below w0.heap.size w0 w) :
    Calls Tryz.prog 17 #[.agg #[.slice a t c]] w fun e w' => ∃ T y, e = .returned (.iface T y) ∧ ClIs w0 w' (fun b => w.heap.size ≤ b) (clF F t (t - 1)) (.iface T y) ∧ Below w.heap.size w w' := by
  have hal : ∀ o, Below w.heap.size w (w.alloc o) := fun o => (Below.refl _ _).alloc (Nat.le_refl _) o
  have HC : Hid (∀ o, Calls Tryz.prog 36 #[.slice a t c, .int .i64 ((t : Int) - 1)] (w.alloc o) fun e w' => ∃ T y, e = .returned (.iface T y) ∧ ClIs w0 w' (fun b => w.heap.size ≤ b) (clF F t (t - 1)) (.iface T y) ∧ Below w.heap.size w w') := fun o => by
    have h := clauseAt_any w0 a c t F hF hCF hA ht (t - 1) (by omega) (w.alloc o) (hw.trans ((hal o).mono hw.size))
    rw [show (((t - 1 : Nat)) : Int) = (t : Int) - 1 by omega, show t - 1 + 1 = t by omega] at h
    refine h.mono ?_
    rintro e w' ⟨v, rfl, hc, hb⟩
    obtain ⟨T, y, rfl⟩ := hc.form
    exact ⟨T, y, rfl, ClIs.keep (fun b _ _ => rfl) (fun b hb _ => by simp at hb; omega) (Nat.le_refl _) _ _ hc, (hal o).trans (hb.mono (by simp))⟩
  clear hF hCF hA hw hal
  go_enter Tryz.func17, Tryz.ntmps17
  go_wp2_with fail
  refine (HC.out _).mono ?_
  rintro e w1 ⟨T, y, rfl, hc, hb⟩
  have HR : Hid (ClIs w0 w1 (fun b => w.heap.size ≤ b) (clF F t (t - 1)) (.iface T y) ∧ Below w.heap.size w w1) := ⟨hc, hb⟩
  clear hc hb
  go_wp2
  go_ret
  exact ⟨T, y, rfl, HR.out.1, HR.out.2⟩

end Go.Proofs.YtjbjgkkkkghcgaaGreatDoor
