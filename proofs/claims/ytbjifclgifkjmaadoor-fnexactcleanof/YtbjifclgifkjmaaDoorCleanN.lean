/- Maps' names rise: so what is put to a map's names one by one is put behind them. No program in this text. -/
import Derived.Test.YtbjifclgifkjmaaDoorCleanW
import Derived.Test.YtbjifclgifkjmaaDoorL1Put
import Derived.Test.YtbjifclgifkjmaaDoorSubI
namespace Go.Proofs.YtbjifclgifkjmaaDoor
open Go.RowKit
set_option linter.unusedVariables false

theorem less_trans : ∀ a b c : List UInt8, Op.bytesLess a b = true → Op.bytesLess b c = true → Op.bytesLess a c = true
  | [], [], _ => by intro h; simp [Op.bytesLess] at h
  | [], _ :: _, [] => by intro _ h; simp [Op.bytesLess] at h
  | [], _ :: _, _ :: _ => by intros; simp [Op.bytesLess]
  | _ :: _, [], _ => by intro h; simp [Op.bytesLess] at h
  | _ :: _, _ :: _, [] => by intro _ h; simp [Op.bytesLess] at h
  | x :: a, y :: b, z :: c => by
    intro h1 h2
    have ih := less_trans a b c
    unfold Op.bytesLess at h1 h2 ⊢
    rcases Nat.lt_trichotomy x.toNat y.toNat with p | p | p
    · rcases Nat.lt_trichotomy y.toNat z.toNat with q | q | q
      · have : x < z := by show x.toNat < z.toNat; omega
        simp [this]
      · obtain rfl : y = z := UInt8.toNat_inj.1 q
        have : x < y := p
        simp [this]
      · have q1 : z < y := q
        have q2 : ¬ y < z := fun h => by have : y.toNat < z.toNat := h; omega
        have q3 : ¬ y = z := fun e => by rw [e] at q; omega
        simp [q2, q3] at h2
    · obtain rfl : x = y := UInt8.toNat_inj.1 p
      rcases Nat.lt_trichotomy x.toNat z.toNat with q | q | q
      · have : x < z := q
        simp [this]
      · obtain rfl : x = z := UInt8.toNat_inj.1 q
        simp at h1 h2 ⊢
        exact ih h1 h2
      · have q2 : ¬ x < z := fun h => by have : x.toNat < z.toNat := h; omega
        have q3 : ¬ x = z := fun e => by rw [e] at q; omega
        simp [q2, q3] at h2
    · have q2 : ¬ x < y := fun h => by have : x.toNat < y.toNat := h; omega
      have q3 : ¬ x = y := fun e => by rw [e] at p; omega
      simp [q2, q3] at h1
theorem nameLess_trans {a b c : ByteArray} (h1 : nameLess a b = true) (h2 : nameLess b c = true) : nameLess a c = true := less_trans _ _ _ h1 h2

/-- Of two parts of a map the one that comes first has the lesser name. -/
theorem kid_names {N : Nat → Nd} {n q : Nat} (hg : GoodV N n) (h7 : (N q).kind = 7) : ∀ d s k : Nat, k - s = d → 0 < s → s < k → k < n → (N s).up = (q : Int) → (N k).up = (q : Int) → nameLess (N s).name (N k).name = true := by
  intro d
  induction d using Nat.strongRecOn with
  | _ d ih =>
    intro s k hd h0 hs hk us uk
    have hl : ∀ t, LastOf N k t → nameLess (N t).name (N k).name = true := by
      rcases (hg.1.2.2 k hk).2.1 with ⟨e, _⟩ | ⟨_, _, _, _, h⟩
      · omega
      · have e : par N k = q := by unfold par; omega
        rcases h with ⟨h, _⟩ | ⟨_, _, h⟩
        · rw [e] at h; omega
        · exact h
    by_cases hx : ∃ i, s < i ∧ i < k ∧ (N i).up = (q : Int)
    · obtain ⟨i, i1, i2, i3⟩ := hx
      exact nameLess_trans (ih (i - s) (by omega) s i rfl h0 i1 (by omega) us i3) (ih (k - i) (by omega) i k rfl (by omega) i2 hk i3 uk)
    · exact hl s ⟨h0, hs, by rw [us, uk], fun i h1 h2 e => hx ⟨i, h1, h2, by rw [e, uk]⟩⟩

mutual
/-- Maps hold nothing but parts, and their names rise. -/
def Tr.rises : Tr → Prop
  | .mk k n t nm ks => (k = 7 → n = 0 ∧ t = ⟨#[]⟩ ∧ nm.length = ks.length ∧ nm.Pairwise (fun a b => leB a b = true)) ∧ Tr.risess ks
def Tr.risess : List Tr → Prop
  | [] => True
  | t :: ts => t.rises ∧ Tr.risess ts
end
theorem Tr.risess_mem {l : List Tr} : Tr.risess l ↔ ∀ t ∈ l, t.rises := by
  induction l with
  | nil => simp [Tr.risess]
  | cons a l ih => rw [Tr.risess, ih]; simp

theorem put_last {nm : List ByteArray} {ks : List Tr} {name : ByteArray} {x : Tr} (hl : nm.length = ks.length) (h : ∀ a ∈ nm, leB a name = true) : putK (.mk 7 0 ⟨#[]⟩ nm ks) name x = .mk 7 0 ⟨#[]⟩ (nm ++ [name]) (ks ++ [x]) := by
  have hp : putPos nm name = nm.length := putPos_at (fun i y hi hy => h y (List.mem_of_getElem? hy)) (Nat.le_refl _) (fun y hy => by simp at hy)
  rw [putK, putAt, if_pos rfl, hp, if_pos rfl, List.take_length, List.drop_length, hl, List.take_length, List.drop_length]

theorem clnN_sub : ∀ (nm : List ByteArray) (ks : List Tr) (a : ByteArray), a ∈ Tr.clnN nm ks → a ∈ nm := by
  intro nm
  induction nm with
  | nil => intro ks a h; simp [Tr.clnN] at h
  | cons b nm ih =>
    intro ks a h
    cases ks with
    | nil => simp [Tr.clnN] at h
    | cons x ks =>
      rw [Tr.clnN] at h
      split at h
      · exact List.mem_cons_of_mem _ (ih ks a h)
      · rcases List.mem_cons.1 h with rfl | h
        · simp
        · exact List.mem_cons_of_mem _ (ih ks a h)
theorem clnN_len : ∀ (nm : List ByteArray) (ks : List Tr), nm.length = ks.length → (Tr.clnN nm ks).length = (Tr.clns ks).length := by
  intro nm
  induction nm with
  | nil =>
    intro ks h
    obtain rfl : ks = [] := List.eq_nil_of_length_eq_zero h.symm
    rfl
  | cons b nm ih =>
    intro ks h
    cases ks with
    | nil => simp at h
    | cons x ks =>
      rw [Tr.clnN, Tr.clns]
      split
      · exact ih ks (by simpa using h)
      · simp [ih ks (by simpa using h)]
theorem cln_snoc : ∀ (nm : List ByteArray) (ks : List Tr) (a : ByteArray) (x : Tr), nm.length = ks.length → Tr.clns (ks ++ [x]) = Tr.clns ks ++ (if x.kind = 1 then [] else [x.cln]) ∧ Tr.clnN (nm ++ [a]) (ks ++ [x]) = Tr.clnN nm ks ++ (if x.kind = 1 then [] else [a]) := by
  intro nm
  induction nm with
  | nil =>
    intro ks a x h
    obtain rfl : ks = [] := List.eq_nil_of_length_eq_zero h.symm
    simp only [List.nil_append, Tr.clns, Tr.clnN]
    exact ⟨trivial, trivial⟩
  | cons b nm ih =>
    intro ks a x h
    cases ks with
    | nil => simp at h
    | cons y ks =>
      obtain ⟨i1, i2⟩ := ih ks a x (by simpa using h)
      simp only [List.cons_append]
      rw [Tr.clns, Tr.clns, Tr.clnN, Tr.clnN, i1, i2]
      split <;> simp
/-- The parts that have been put so far. -/
def accT (nm : List ByteArray) (ks : List Tr) (i : Nat) : Tr := .mk 7 0 ⟨#[]⟩ (Tr.clnN (nm.take i) (ks.take i)) (Tr.clns (ks.take i))
theorem accT_next {nm : List ByteArray} {ks : List Tr} {i : Nat} {a : ByteArray} {x : Tr} (hl : nm.length = ks.length) (hr : nm.Pairwise (fun a b => leB a b = true)) (ha : nm[i]? = some a) (hx : ks[i]? = some x) :
    (x.kind = 1 → accT nm ks (i + 1) = accT nm ks i) ∧ (x.kind ≠ 1 → accT nm ks (i + 1) = putK (accT nm ks i) a x.cln) := by
  have hi : i < nm.length := (List.getElem?_eq_some_iff.1 ha).1
  have e1 : nm.take (i + 1) = nm.take i ++ [a] := by rw [List.take_add_one, ha]; rfl
  have e2 : ks.take (i + 1) = ks.take i ++ [x] := by rw [List.take_add_one, hx]; rfl
  have hlt : (nm.take i).length = (ks.take i).length := by simp [hl]
  obtain ⟨c1, c2⟩ := cln_snoc (nm.take i) (ks.take i) a x hlt
  constructor
  · intro h1
    unfold accT
    rw [e1, e2, c1, c2, if_pos h1, if_pos h1, List.append_nil, List.append_nil]
  · intro h1
    unfold accT
    rw [e1, e2, c1, c2, if_neg h1, if_neg h1, put_last (clnN_len _ _ hlt)]
    intro b hb
    have hb' := clnN_sub _ _ _ hb
    obtain ⟨j, hj, rfl⟩ := List.mem_iff_getElem.1 hb'
    have hj' : j < i := by simp at hj; omega
    have hp := (List.pairwise_iff_getElem.1 hr) j i (by omega) hi hj'
    rw [(List.getElem?_eq_some_iff.1 ha).2] at hp
    rw [List.getElem_take]
    exact hp

end Go.Proofs.YtbjifclgifkjmaaDoor
