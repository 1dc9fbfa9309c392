/- Where a node's own nodes end; a slice with room: the program's endOf, and slices.Grow of none. Nodes ahead, a part, and nodes behind, in one row: its mathematics. No program in this text. Nodes ahead, a part, and nodes behind, in one new row: the program's putBetween. -/
import Derived.Test.YtadlflgflnlhjaaGreatDoorTell
import Derived.Test.YtadlflgflnlhjaaGreatDoorBase
import Derived.Test.YtadlflgflnlhjaaGreatDoorTreeF
import Derived.Lib.AppendZeros
import Derived.Laws.OwnMore
import Derived.Deep.DeepCutAuto
import Derived.Deep.RegionWith
import Derived.Deep.RegionHeld3
import Derived.Deep.DeepFit
namespace Go.Proofs.YtadlflgflnlhjaaGreatDoor
open Go.RowKit
set_option linter.unusedVariables false

set_option maxRecDepth 100000 in
set_option maxHeartbeats 1000000 in
theorem endOf_any (b off c n k : Nat) (N : Nat → Nd) (w : World) (hk : k < n) (hn : n ≤ 2 ^ 20) (hat : NodesAt w b off n N) :
    Calls Tryz.prog 101 #[.slice (some ⟨b, off, none⟩) n c, .int .i64 (k : Int)] w fun e w' => ∃ en : Nat, e = .returned (.int .i64 (en : Int)) ∧ IsEnd N n k en ∧ w' = w := by
  have HAT : Hid (NodesAt w b off n N) := hat
  clear hat
  go_enter Tryz.func101, Tryz.ntmps101
  go_wp2_with fail
  go_loopw [5] (fun v wr => ∃ e : Nat, v = .int .i64 (e : Int) ∧ k < e ∧ e ≤ n ∧ Hid (∀ i, k < i → i < e → (k : Int) ≤ (N i).up) ∧ wr = w) (fun v _ => n - (intOf v).toNat)
  case atStart => exact ⟨k + 1, by go_num, by omega, by omega, fun i h1 h2 => by omega, rfl⟩
  case round =>
    obtain ⟨e, rfl, he1, he2, HU, rfl⟩ := hrel
    by_cases hlt : e < n
    · have a4 := (HAT.out e hlt).2.2.2.2
      have i0 : (0 : Int) ≤ (e : Int) := by omega
      have i1 : (e : Int) < (n : Int) := by omega
      by_cases hu : (k : Int) ≤ (N e).up
      · have HU2 : Hid (∀ i, k < i → i < e + 1 → (k : Int) ≤ (N i).up) := fun i h1 h2 => by
          by_cases h : i = e
          · subst h; exact hu
          · exact HU.out i h1 (by omega)
        go_wp2
        go_roundw
        case rel => exact ⟨e + 1, by go_num, by omega, by omega, HU2, trivial⟩
        case measure => simp [intOf]; omega
      · have HE : Hid (IsEnd N n k e) := ⟨he1, he2, HU.out, fun _ => by omega⟩
        go_wp2
        go_ret
        exact ⟨e, rfl, HE.out, rfl⟩
    · obtain rfl : e = n := by omega
      have HE : Hid (IsEnd N e k e) := ⟨he1, he2, HU.out, fun h => by omega⟩
      go_wp2
      go_ret
      exact ⟨e, rfl, HE.out, rfl⟩

set_option maxRecDepth 100000 in
set_option maxHeartbeats 1000000 in
theorem grow_any (m : Nat) (hm : m ≤ 2 ^ 20) (w : World) :
    Calls Tryz.prog 119 #[.slice none 0 0, .int .i64 (m : Int)] w fun e w' => ∃ v, e = .returned v ∧ w'.ownsRow w.heap.size 77 5 v 0 [] ∧ Below w.heap.size w w' := by
  by_cases h0 : m = 0
  · subst h0
    go_enter Tryz.func119, Tryz.ntmps119
    go_wp2
    go_ret
    exact ⟨_, rfl, World.ownsRow_nil _ _ _ _, Below.refl _ _⟩
  · obtain ⟨i0, hi, hz0, hz1, hz2⟩ := info_parts infoNode5
    have hr := Lib.run_append_nil_zeros (P := Tryz.prog) w 26 3 26 77 i0 _ .i64 .i64 Tryz.underlying26 Tryz.underlying3 hi hz0 m (by omega) (by rw [hz1]; decide) (by omega) (by rw [hz2]; omega)
    have i1 : (0 : Int) < (m : Int) := by omega
    have i2 : ¬ ((m : Int) < 0) := by omega
    go_enter Tryz.func119, Tryz.ntmps119
    go_wp2_with (first | (at_builtin; refine Lib.wpList_append_run _ rfl _ _ _ _ rfl _ _ rfl rfl _ _ hr ?_))
    go_ret
    refine ⟨_, rfl, ⟨by simp, .inr ⟨w.heap.size, grownCap w m 0 77, _, rfl, Nat.le_refl _, heap_alloc_new w _, Nat.zero_le _, grownCap_le_maxLen _ _ _ _ (by unfold maxLen; omega), ?_, by simp⟩⟩, ((Below.refl _ w).alloc (Nat.le_refl _) _).drew⟩
    have hge := grownCap_ge w m 0 77
    rw [Array.size_append, size_zeroCells, size_zeroCells, ← Nat.add_mul]
    congr 1
    omega

/-- A part that is put to the row: none at all, or cells that lie somewhere. -/
def PartS (w : World) (a : Option Addr) (m c : Nat) (xs : List Value) : Prop :=
  xs.length = m * 5 ∧ (∀ u ∈ xs, u.oneCell' = true) ∧ ((m = 0 ∧ a = none ∧ c = 0) ∨ ∃ b off, a = some ⟨b, off, none⟩ ∧ b < w.heap.size ∧ ∀ j u, xs[j]? = some u → w.cell? ⟨b, off + j, none⟩ = some u)
theorem PartS.below {w w' : World} {a : Option Addr} {m c : Nat} {xs : List Value} (h : PartS w a m c xs) (hb : Below w.heap.size w w') : PartS w' a m c xs := by
  obtain ⟨h1, h2, h3 | ⟨b, off, rfl, h3, h4⟩⟩ := h
  · exact ⟨h1, h2, .inl h3⟩
  · exact ⟨h1, h2, .inr ⟨b, off, rfl, Nat.lt_of_lt_of_le h3 hb.size, fun j u hu => (hb.cell h3).trans (h4 j u hu)⟩⟩

/-- A part is put to an own row. -/
theorem wpList_append_part {w : World} {ops : Array Oper} {rest : List Oper} {o : Oper} {a : Act} {Q : Exit → Act → World → Prop} (hgd : o.guard = none) (s x : Operand)
    (ho : o.op = .call { callee := .builtin .append, args := #[s, x], argTypes := #[26, 26] })
    (base : Nat) (v : Value) (n : Nat) (xs : List Value) (hs : a.eval s = v) (hown : w.ownsRow base 77 5 v n xs)
    (ax : Option Addr) (m c : Nat) (news : List Value) (hx : a.eval x = .slice ax m c) (hp : PartS w ax m c news)
    (hlen : n + m ≤ 2 ^ 30) (hbase : base ≤ w.heap.size)
    (h : ∀ v' w', w'.ownsRow base 77 5 v' (n + m) (xs ++ news) → w.grownBy w' v.ownBlock → wpList Tryz.prog ops Q rest (a.put o.dst v') w') : wpList Tryz.prog ops Q (o :: rest) a w := by
  obtain ⟨i0, hi, hz0, hz1, hz2⟩ := info_parts infoNode5
  obtain ⟨hl, h1, ⟨rfl, rfl, rfl⟩ | ⟨b, off, rfl, hb, hc⟩⟩ := hp
  · obtain rfl : news = [] := List.eq_nil_of_length_eq_zero (by simpa using hl)
    have hr := run_append_owned_none (P := Tryz.prog) (w := w) base 26 o.type 77 i0 5 Tryz.underlying26 hi v n xs hown
    exact Lib.wpList_append_run w hgd s x _ _ ho _ _ hs hx v w hr (h v w (by simpa using hown) ⟨rfl, rfl, rfl, Nat.le_refl _, fun _ _ _ => rfl⟩)
  · exact wpList_append_own w hgd s x 26 ho base 77 i0 _ 5 56 Tryz.underlying26 hi hz0 hz1 hz2 rfl (by decide) v n xs hs hown ⟨b, off, none⟩ m c news hx hl
      (fun j u hu => by rw [show ((⟨b, off, none⟩ : Addr).add j) = ⟨b, off + j, none⟩ by unfold Addr.add; split <;> simp_all]; exact hc j u hu) h1 (by unfold maxLen; omega) (by omega) hbase (fun v' w' h2 h3 _ => h v' w' h2 h3)

/-- The row of the first k parts. -/
def sumTo (pl : Nat → Nat) : Nat → Nat
  | 0 => 0
  | k + 1 => sumTo pl k + pl k
def catTo (px : Nat → List Value) : Nat → List Value
  | 0 => []
  | k + 1 => catTo px k ++ px k
theorem sumTo_le {pl : Nat → Nat} {n B : Nat} (h : sumTo pl n ≤ B) : ∀ k, k ≤ n → sumTo pl k ≤ B := by
  intro k hk
  have : ∀ d, sumTo pl k ≤ sumTo pl (k + d) := by
    intro d
    induction d with
    | zero => exact Nat.le_refl _
    | succ d ih => rw [← Nat.add_assoc, sumTo]; omega
  have := this (n - k)
  rw [show k + (n - k) = n by omega] at this
  omega

set_option maxRecDepth 100000 in
set_option maxHeartbeats 2000000 in
theorem concat_any (h n c : Nat) (pa : Nat → Option Addr) (pl pc : Nat → Nat) (px : Nat → List Value) (w : World) (hn : n ≤ 2 ^ 20) (hh : h < w.heap.size) (hat : ∀ i, i < n → w.cell? ⟨h, i, none⟩ = some (.slice (pa i) (pl i) (pc i))) (hp : ∀ i, i < n → PartS w (pa i) (pl i) (pc i) (px i)) (hsum : sumTo pl n ≤ 2 ^ 20) :
    Calls Tryz.prog 103 #[.slice (some ⟨h, 0, none⟩) n c] w fun e w' => ∃ v, e = .returned v ∧ w'.ownsRow w.heap.size 77 5 v (sumTo pl n) (catTo px n) ∧ Below w.heap.size w w' := by
  have HAT : Hid (∀ i, i < n → w.cell? ⟨h, i, none⟩ = some (.slice (pa i) (pl i) (pc i))) := hat
  have HP : Hid (∀ i, i < n → PartS w (pa i) (pl i) (pc i) (px i)) := hp
  have HSM : Hid (∀ k, k ≤ n → sumTo pl k ≤ 2 ^ 20) := sumTo_le hsum
  clear hat hp
  go_enter Tryz.func103, Tryz.ntmps103
  go_wp2_with fail
  go_loopw [3, 11] (fun q i wr => ∃ k : Nat, k ≤ n ∧ i = .int .i64 (k : Int) ∧ q = .int .i64 (sumTo pl k : Nat) ∧ w = wr) (fun _ i _ => n - (intOf i).toNat)
  case atStart => exact ⟨0, Nat.zero_le _, rfl, rfl, rfl⟩
  case round =>
    obtain ⟨k, hk, rfl, rfl, rfl⟩ := hrel
    by_cases hlt : k < n
    · have a0 := HAT.out k hlt
      have i0 : (0 : Int) ≤ (k : Int) := by omega
      have i1 : (k : Int) < (n : Int) := by omega
      have s1 := HSM.out (k + 1) (by omega)
      rw [sumTo] at s1
      have s2 : (0 : Int) ≤ ((sumTo pl k : Nat) : Int) + (pl k : Int) := by omega
      go_wp2
      go_roundw
      case rel => exact ⟨k + 1, by omega, by go_num, by rw [sumTo]; go_num, trivial⟩
      case measure => simp [intOf]; omega
    · obtain rfl : k = n := by omega
      go_wp2_with fail
      refine (grow_any (sumTo pl k) hsum _).mono ?_
      rintro e w1 ⟨v1, rfl, ho1, hb1⟩
      have HO1 : Hid (w1.ownsRow w.heap.size 77 5 v1 0 []) := ho1
      have HB1 : Hid (Below w.heap.size w w1) := hb1
      have hh1 : h < w1.heap.size := Nat.lt_of_lt_of_le hh hb1.size
      clear ho1 hb1
      go_wp2_with fail
      go_loopw [6, 27] (fun q i wr => ∃ j : Nat, j ≤ k ∧ i = .int .i64 (j : Int) ∧ Hid (wr.ownsRow w.heap.size 77 5 q (sumTo pl j) (catTo px j)) ∧ Hid (Below w.heap.size w wr)) (fun _ i _ => k - (intOf i).toNat)
      case atStart => exact ⟨0, Nat.zero_le _, rfl, HO1, HB1⟩
      case round =>
        obtain ⟨j, hj, rfl, HO, HB⟩ := hrel
        by_cases hjl : j < k
        · have a0 := (HB.out.cell (p := ⟨h, j, none⟩) hh).trans (HAT.out j hjl)
          have i0 : (0 : Int) ≤ (j : Int) := by omega
          have i1 : (j : Int) < (k : Int) := by omega
          have s1 := HSM.out (j + 1) (by omega)
          rw [sumTo] at s1
          go_wp2_with (first | (at_builtin; refine wpList_append_part rfl _ _ rfl w.heap.size _ (sumTo pl j) (catTo px j) rfl HO.out (pa j) (pl j) (pc j) (px j) rfl ((HP.out j hjl).below HB.out) (by omega) HB.out.size ?_))
          intro v3 w3 ho3 hg3
          have HO3 : Hid (w3.ownsRow w.heap.size 77 5 v3 (sumTo pl (j + 1)) (catTo px (j + 1))) := ho3
          have HB3 : Hid (Below w.heap.size w w3) := ⟨hg3.os.trans HB.out.os, hg3.tape.trans HB.out.tape, hg3.output.trans HB.out.output, Nat.le_trans HB.out.size hg3.size, fun b hb => (hg3.block b (Nat.lt_of_lt_of_le hb HB.out.size) (fun e => by have := own_lt HO.out e; omega)).trans (HB.out.block b hb)⟩
          clear ho3 hg3
          go_wp2
          go_roundw
          case rel => exact ⟨j + 1, by omega, by go_num, HO3, HB3⟩
          case measure => simp [intOf]; omega
        · obtain rfl : j = k := by omega
          go_wp2
          go_ret
          exact ⟨_, rfl, HO.out, HB.out⟩

end Go.Proofs.YtadlflgflnlhjaaGreatDoor
namespace Go.Proofs.YtadlflgflnlhjaaGreatDoor
open Go.RowKit
set_option linter.unusedVariables false

theorem nd_cons (y : Nd) (l : List Nd) : ndCells (y :: l) = [.int .i64 y.kind, .int .i64 y.num, .string y.text, .string y.name, .int .i64 y.up] ++ ndCells l := by simp [ndCells]
theorem nd_append (l m : List Nd) : ndCells (l ++ m) = ndCells l ++ ndCells m := by simp [ndCells]
theorem nd_len (l : List Nd) : (ndCells l).length = l.length * 5 := by
  induction l with
  | nil => rfl
  | cons y l ih => rw [nd_cons, List.length_append, ih]; simp; omega
theorem nd_ones (l : List Nd) : ∀ u ∈ ndCells l, u.oneCell' = true := by
  induction l with
  | nil => intro u hu; simp [ndCells] at hu
  | cons y l ih =>
    intro u hu
    rw [nd_cons] at hu
    rcases List.mem_append.1 hu with h | h
    · simp at h
      rcases h with rfl | rfl | rfl | rfl | rfl <;> rfl
    · exact ih u h
theorem nd_get5 : ∀ (l : List Nd) (i : Nat) (hi : i < l.length), (ndCells l)[i * 5]? = some (.int .i64 l[i].kind) ∧ (ndCells l)[i * 5 + 1]? = some (.int .i64 l[i].num) ∧ (ndCells l)[i * 5 + 2]? = some (.string l[i].text) ∧ (ndCells l)[i * 5 + 3]? = some (.string l[i].name) ∧ (ndCells l)[i * 5 + 4]? = some (.int .i64 l[i].up) := by
  intro l
  induction l with
  | nil => intro i hi; simp at hi
  | cons y l ih =>
    intro i hi
    rw [nd_cons]
    cases i with
    | zero => simp
    | succ i =>
      have := ih i (by simpa using hi)
      have e : ∀ j, ([Value.int .i64 y.kind, .int .i64 y.num, .string y.text, .string y.name, .int .i64 y.up] ++ ndCells l)[(i + 1) * 5 + j]? = (ndCells l)[i * 5 + j]? := fun j => by
        rw [List.getElem?_append_right (by simp; omega)]
        congr 1
        simp
        omega
      exact ⟨(e 0).trans this.1, (e 1).trans this.2.1, (e 2).trans this.2.2.1, (e 3).trans this.2.2.2.1, (e 4).trans this.2.2.2.2⟩
theorem nd_set_up (u : Int) : ∀ (l : List Nd) (i : Nat) (hi : i < l.length), (ndCells l).set (i * 5 + 4) (.int .i64 u) = ndCells (l.set i { l[i] with up := u }) := by
  intro l
  induction l with
  | nil => intro i hi; simp at hi
  | cons y l ih =>
    intro i hi
    cases i with
    | zero => rw [nd_cons]; simp [ndCells]
    | succ i =>
      have := ih i (by simpa using hi)
      rw [nd_cons, List.set_cons_succ, nd_cons, List.set_append_right _ _ (by simp; omega)]
      congr 1
      refine Eq.trans ?_ this
      congr 1
      simp
      omega

/-- Nodes that lie in a row, as cells. -/
theorem nodes_cells {w : World} {b off n : Nat} {N : Nat → Nd} (h : NodesAt w b off n N) (s m : Nat) (hm : s + m ≤ n) : ∀ (j : Nat) (u : Value), (ndCells ((List.range m).map fun i => N (s + i)))[j]? = some u → w.cell? ⟨b, off + s * 5 + j, none⟩ = some u := by
  intro j u hu
  have hj := (List.getElem?_eq_some_iff.1 hu).1
  rw [nd_len, List.length_map, List.length_range] at hj
  obtain ⟨q, r, rfl, hr⟩ : ∃ q r, j = q * 5 + r ∧ r < 5 := ⟨j / 5, j % 5, by omega, by omega⟩
  have hq : q < m := by omega
  obtain ⟨g0, g1, g2, g3, g4⟩ := nd_get5 ((List.range m).map fun i => N (s + i)) q (by simpa using hq)
  simp only [List.getElem_map, List.getElem_range] at g0 g1 g2 g3 g4
  obtain ⟨c0, c1, c2, c3, c4⟩ := h (s + q) (by omega)
  have e : ∀ d, off + s * 5 + (q * 5 + d) = off + (s + q) * 5 + d := fun d => by omega
  rw [e]
  rcases (by omega : r = 0 ∨ r = 1 ∨ r = 2 ∨ r = 3 ∨ r = 4) with rfl | rfl | rfl | rfl | rfl
  · rw [Nat.add_zero] at hu ⊢; rw [g0] at hu; rw [c0]; exact hu
  · rw [g1] at hu; rw [c1]; exact hu
  · rw [g2] at hu; rw [c2]; exact hu
  · rw [g3] at hu; rw [c3]; exact hu
  · rw [g4] at hu; rw [c4]; exact hu

/-- A node that is moved, where it stands below one that was. -/
def mvN (e : Nat) (d : Int) (x : Nd) : Nd := if (e : Int) ≤ x.up then { x with up := x.up + d } else x
def putL (N : Nat → Nd) (n p e : Nat) (P : List Nd) : List Nd := ((List.range p).map fun i => N (0 + i)) ++ P ++ ((List.range (n - e)).map fun i => N (e + i)).map (mvN e ((p : Int) + P.length - e))
theorem putL_len (N : Nat → Nd) (n p e : Nat) (P : List Nd) : (putL N n p e P).length = p + P.length + (n - e) := by simp [putL]; omega
/-- The row while nodes are moved: those from B on and ahead of j are. -/
def MvTo (L0 : List Nd) (B e : Nat) (d : Int) (j : Nat) (L : List Nd) : Prop := L.length = L0.length ∧ ∀ i x, L0[i]? = some x → L[i]? = some (if B ≤ i ∧ i < j then mvN e d x else x)
theorem MvTo.start (L0 : List Nd) (B e : Nat) (d : Int) : MvTo L0 B e d B L0 := ⟨rfl, fun i x hx => by rw [if_neg (by omega)]; exact hx⟩
theorem MvTo.at {L0 L : List Nd} {B e j : Nat} {d : Int} (h : MvTo L0 B e d j L) (hj : j < L.length) (hj0 : j < L0.length) : L[j] = L0[j] := by
  have := h.2 j L0[j] (List.getElem?_eq_getElem hj0)
  rw [if_neg (by omega), List.getElem?_eq_getElem hj] at this
  exact Option.some.inj this
theorem MvTo.move {L0 L : List Nd} {B e j : Nat} {d : Int} (h : MvTo L0 B e d j L) (hj : j < L.length) (hB : B ≤ j) (hu : (e : Int) ≤ L[j].up) : MvTo L0 B e d (j + 1) (L.set j { L[j] with up := L[j].up + d }) := by
  refine ⟨by rw [List.length_set]; exact h.1, fun i x hx => ?_⟩
  by_cases hi : i = j
  · subst hi
    have h2 := h.2 i x hx
    rw [if_neg (by omega), List.getElem?_eq_getElem hj] at h2
    have h3 := Option.some.inj h2
    rw [List.getElem?_set_self hj, if_pos ⟨hB, by omega⟩, ← h3]
    unfold mvN
    rw [if_pos hu]
  · rw [List.getElem?_set_ne (fun h => hi h.symm), h.2 i x hx]
    by_cases hc : B ≤ i ∧ i < j
    · rw [if_pos hc, if_pos ⟨hc.1, by omega⟩]
    · rw [if_neg hc, if_neg (by omega)]
theorem MvTo.stay {L0 L : List Nd} {B e j : Nat} {d : Int} (h : MvTo L0 B e d j L) (hj : j < L.length) (hu : ¬ (e : Int) ≤ L[j].up) : MvTo L0 B e d (j + 1) L := by
  refine ⟨h.1, fun i x hx => ?_⟩
  have h2 := h.2 i x hx
  by_cases hi : i = j
  · subst hi
    rw [if_neg (by omega)] at h2
    rw [List.getElem?_eq_getElem hj] at h2
    have h3 := Option.some.inj h2
    rw [List.getElem?_eq_getElem hj, h3]
    rw [h3] at hu
    unfold mvN
    rw [if_neg hu]
    simp
  · rw [h2]
    by_cases hc : B ≤ i ∧ i < j
    · rw [if_pos hc, if_pos ⟨hc.1, by omega⟩]
    · rw [if_neg hc, if_neg (by omega)]
theorem MvTo.done {L : List Nd} {N : Nat → Nd} {n p e : Nat} {P : List Nd} (h : MvTo (((List.range p).map fun i => N (0 + i)) ++ P ++ (List.range (n - e)).map fun i => N (e + i)) (p + P.length) e ((p : Int) + P.length - e) (p + P.length + (n - e)) L) : L = putL N n p e P := by
  apply List.ext_getElem?
  intro i
  have hl : L.length = p + P.length + (n - e) := by rw [h.1]; simp; omega
  by_cases hi : i < p + P.length + (n - e)
  · have hx := h.2 i _ (List.getElem?_eq_getElem (by simp; omega))
    rw [hx]
    unfold putL
    by_cases hB : p + P.length ≤ i
    · rw [if_pos ⟨hB, hi⟩, List.getElem?_append_right (by simpa using hB), List.getElem_append_right (by simpa using hB)]
      rw [List.getElem?_map, List.getElem?_eq_getElem (by simp; omega)]
      rfl
    · rw [if_neg (by omega), List.getElem?_append_left (by simp; omega), List.getElem_append_left (by simp; omega), List.getElem?_eq_getElem]
  · rw [List.getElem?_eq_none (by omega), List.getElem?_eq_none (by rw [putL_len]; omega)]

end Go.Proofs.YtadlflgflnlhjaaGreatDoor
namespace Go.Proofs.YtadlflgflnlhjaaGreatDoor
open Go.RowKit
set_option linter.unusedVariables false

theorem row_put {w : World} {B g cap j : Nat} {L : List Nd} {u : Int} (h : OwnsN w B (.slice (some ⟨g, 0, none⟩) L.length cap) L) (hj : j < L.length) : OwnsN (w.setCell ⟨g, j * 5 + 4, none⟩ (.int .i64 u)) B (.slice (some ⟨g, 0, none⟩) L.length cap) (L.set j { L[j] with up := u }) := by
  have := (World.ownsRow.stored h (j * 5 + 4) (.int .i64 u)).1
  rw [nd_set_up u L j hj] at this
  unfold OwnsN
  rw [List.length_set]
  exact this
theorem row_up {w : World} {B g cap j : Nat} {L : List Nd} (h : OwnsN w B (.slice (some ⟨g, 0, none⟩) L.length cap) L) (hj : j < L.length) : w.cell? ⟨g, j * 5 + 4, none⟩ = some (.int .i64 L[j].up) := by
  rw [World.ownsRow.cellAt h (j * 5 + 4) (by omega)]
  exact (nd_get5 L j hj).2.2.2.2

/-- The three parts that are put together. -/
def p3 {α : Type} (x y z : α) (i : Nat) : α := if i = 0 then x else if i = 1 then y else z

theorem put_own {w : World} {H B a b c : Nat} {v : Value} {x y z : List Nd} (h : w.ownsRow H 77 5 v (sumTo (p3 a b c) 3) (catTo (p3 (ndCells x) (ndCells y) (ndCells z)) 3)) (hB : B ≤ H) (hl : (x ++ y ++ z).length = a + b + c) (hp : 0 < a) : ∃ g cap, v = .slice (some ⟨g, 0, none⟩) (a + b + c) cap ∧ OwnsN w B (.slice (some ⟨g, 0, none⟩) (a + b + c) cap) (x ++ y ++ z) := by
  have e1 : sumTo (p3 a b c) 3 = a + b + c := by simp [sumTo, p3]
  have e2 : catTo (p3 (ndCells x) (ndCells y) (ndCells z)) 3 = ndCells (x ++ y ++ z) := by simp [catTo, p3, nd_append]
  rw [e1, e2] at h
  have ho : w.ownsRow B 77 5 v (a + b + c) (ndCells (x ++ y ++ z)) := by
    refine ⟨h.1, ?_⟩
    rcases h.2 with hn | ⟨g, cap, cur, rfl, hb, rest⟩
    · exact .inl hn
    · exact .inr ⟨g, cap, cur, rfl, by omega, rest⟩
  rcases ho.2 with ⟨_, h0⟩ | ⟨g, cap, cur, hv, _⟩
  · omega
  · refine ⟨g, cap, hv, ?_⟩
    unfold OwnsN
    rw [hl, ← hv]
    exact ho

set_option maxRecDepth 100000 in
set_option maxHeartbeats 4000000 in
theorem putBetween_any (b off c n p e : Nat) (N : Nat → Nd) (pa : Option Addr) (pc : Nat) (P : List Nd) (w : World) (hp : 0 < p) (hpe : p ≤ e) (he : e ≤ n) (hn : n ≤ 2 ^ 18) (hc : n ≤ c) (hP : P.length ≤ 2 ^ 18) (hb : b < w.heap.size) (hat : NodesAt w b off n N) (hup : ∀ i, i < n → -1 ≤ (N i).up ∧ (N i).up ≤ 2 ^ 20) (hpart : PartS w pa P.length pc (ndCells P)) :
    Calls Tryz.prog 75 #[.slice (some ⟨b, off, none⟩) n c, .int .i64 (p : Int), .int .i64 (e : Int), .slice pa P.length pc] w fun r w' => ∃ v, r = .returned v ∧ OwnsN w' w.heap.size v (putL N n p e P) ∧ Below w.heap.size w w' := by
  have HAT : Hid (NodesAt w b off n N) := hat
  have HPT : Hid (PartS w pa P.length pc (ndCells P)) := hpart
  have HUP : Hid (∀ i, i < n → -1 ≤ (N i).up ∧ (N i).up ≤ 2 ^ 20) := hup
  clear hat hpart hup
  have i0 : (0 : Int) ≤ (p : Int) := by omega
  have i1 : (p : Int) ≤ (c : Int) := by omega
  have i2 : (0 : Int) ≤ (e : Int) := by omega
  have i3 : (e : Int) ≤ (n : Int) := by omega
  have i4 : (n : Int) ≤ (c : Int) := by omega
  have i5 : p ≤ c := by omega
  have HP0 : Hid (PartS w (some ⟨b, off, none⟩) p c (ndCells ((List.range p).map fun i => N (0 + i)))) := ⟨by rw [nd_len]; simp, nd_ones _, .inr ⟨b, off, rfl, hb, fun j u hu => by have := nodes_cells HAT.out 0 p (by omega) j u hu; rwa [Nat.zero_mul, Nat.add_zero] at this⟩⟩
  have HPS : Hid (∀ o2, PartS w (some ⟨b, o2, none⟩) (n - e) (c - e) (ndCells ((List.range (n - e)).map fun i => N (e + i))) → ∀ W : World, Below w.heap.size w W → ∀ i, i < 3 → PartS W (p3 (some ⟨b, off, none⟩) pa (some ⟨b, o2, none⟩) i) (p3 p P.length (n - e) i) (p3 c pc (c - e) i) (p3 (ndCells ((List.range p).map fun i => N (0 + i))) (ndCells P) (ndCells ((List.range (n - e)).map fun i => N (e + i))) i)) := by
    intro o2 HP2 W hW i hi
    rcases (by omega : i = 0 ∨ i = 1 ∨ i = 2) with rfl | rfl | rfl
    · exact HP0.out.below hW
    · exact HPT.out.below hW
    · exact HP2.below hW
  have HAL : ∀ o, Below w.heap.size w (w.alloc o).drew := fun o => ((Below.refl _ _).alloc (Nat.le_refl _) o).drew
  go_enter Tryz.func75, Tryz.ntmps75
  go_upto_region 1 with fail
  go_cut [9] (fun v wx => ∃ g cap, v = .slice (some ⟨g, 0, none⟩) (p + P.length + (n - e)) cap ∧ Hid (OwnsN wx w.heap.size (.slice (some ⟨g, 0, none⟩) (p + P.length + (n - e)) cap) (((List.range p).map fun i => N (0 + i)) ++ P ++ (List.range (n - e)).map fun i => N (e + i)) ∧ Below w.heap.size w wx))
  case first =>
    by_cases hce : c = e
    · subst hce
      have HP2 : Hid (PartS w (some ⟨b, off, none⟩) (n - c) (c - c) (ndCells ((List.range (n - c)).map fun i => N (c + i)))) := by
        obtain rfl : n = c := by omega
        refine ⟨by rw [nd_len]; simp, nd_ones _, .inr ⟨b, off, rfl, hb, fun q u hu => ?_⟩⟩
        rw [Nat.sub_self] at hu
        simp [ndCells] at hu
      go_region_with (go_at_call 103; refine (concat_any w.heap.size 3 3 (p3 (some ⟨b, off, none⟩) pa (some ⟨b, off, none⟩)) (p3 p P.length (n - c)) (p3 c pc (c - c)) (p3 (ndCells ((List.range p).map fun i => N (0 + i))) (ndCells P) (ndCells ((List.range (n - c)).map fun i => N (c + i)))) _ (by decide) (by simp) (fun i hi => by rcases (by omega : i = 0 ∨ i = 1 ∨ i = 2) with rfl | rfl | rfl <;> (simp [p3, go_sem] <;> omega)) (HPS.out _ HP2.out _ (HAL _)) (by simp [sumTo, p3]; omega)).mono ?_; rintro r w1 ⟨v1, rfl, ho1, hb1⟩)
      all_goals
        obtain ⟨g, cap, rfl, ho⟩ := put_own (B := w.heap.size) ho1 (by simp) (by simp; omega) hp
        have HOUT : Hid (OwnsN w1 w.heap.size (.slice (some ⟨g, 0, none⟩) (p + P.length + (n - c)) cap) (((List.range p).map fun i => N (0 + i)) ++ P ++ (List.range (n - c)).map fun i => N (c + i)) ∧ Below w.heap.size w w1) := ⟨ho, (HAL _).trans (hb1.mono (HAL _).size)⟩
        clear ho ho1 hb1
        go_wp2_with fail
        go_meet
        case rel => exact ⟨g, cap, rfl, HOUT⟩
    · have HP2 : Hid (PartS w (some ⟨b, off + e * 5, none⟩) (n - e) (c - e) (ndCells ((List.range (n - e)).map fun i => N (e + i)))) := ⟨by rw [nd_len]; simp, nd_ones _, .inr ⟨b, off + e * 5, rfl, hb, nodes_cells HAT.out e (n - e) (by omega)⟩⟩
      go_region_with (go_at_call 103; refine (concat_any w.heap.size 3 3 (p3 (some ⟨b, off, none⟩) pa (some ⟨b, off + e * 5, none⟩)) (p3 p P.length (n - e)) (p3 c pc (c - e)) (p3 (ndCells ((List.range p).map fun i => N (0 + i))) (ndCells P) (ndCells ((List.range (n - e)).map fun i => N (e + i)))) _ (by decide) (by simp) (fun i hi => by rcases (by omega : i = 0 ∨ i = 1 ∨ i = 2) with rfl | rfl | rfl <;> (simp [p3, go_sem] <;> omega)) (HPS.out _ HP2.out _ (HAL _)) (by simp [sumTo, p3]; omega)).mono ?_; rintro r w1 ⟨v1, rfl, ho1, hb1⟩)
      all_goals
        obtain ⟨g, cap, rfl, ho⟩ := put_own (B := w.heap.size) ho1 (by simp) (by simp; omega) hp
        have HOUT : Hid (OwnsN w1 w.heap.size (.slice (some ⟨g, 0, none⟩) (p + P.length + (n - e)) cap) (((List.range p).map fun i => N (0 + i)) ++ P ++ (List.range (n - e)).map fun i => N (e + i)) ∧ Below w.heap.size w w1) := ⟨ho, (HAL _).trans (hb1.mono (HAL _).size)⟩
        clear ho ho1 hb1
        go_wp2_with fail
        go_meet
        case rel => exact ⟨g, cap, rfl, HOUT⟩
  case rest =>
    obtain ⟨g, cap, rfl, HOB⟩ := hcut
    clear HPS HP0 HPT HAT
    obtain ⟨M, hM⟩ : ∃ M, M = p + P.length + (n - e) := ⟨_, rfl⟩
    obtain ⟨L0, hL0⟩ : ∃ L0, L0 = ((List.range p).map fun i => N (0 + i)) ++ P ++ (List.range (n - e)).map fun i => N (e + i) := ⟨_, rfl⟩
    rw [← hM, ← hL0] at HOB
    have hL0l : L0.length = M := by rw [hL0, hM]; simp; omega
    have HL0 : Hid (∀ j (hj : j < L0.length), p + P.length ≤ j → -1 ≤ L0[j].up ∧ L0[j].up ≤ 2 ^ 20) := fun j hj hb => by
      subst hL0
      rw [List.getElem_append_right (by simp; omega)]
      simp only [List.getElem_map, List.getElem_range]
      exact HUP.out _ (by simp at hj ⊢; omega)
    have HDN : Hid (∀ L, MvTo L0 (p + P.length) e ((p : Int) + P.length - e) M L → L = putL N n p e P) := fun L h => by
      rw [hL0, hM] at h
      exact h.done
    rw [← hM]
    have hMb : p + P.length ≤ M := by omega
    have hM2 : M ≤ 2 ^ 20 := by omega
    have hd1 : IntKind.i64.wrap ((p : Int) + (P.length : Int)) = (p : Int) + P.length := by rw [IntKind.wrap_i64]; omega
    have hd2 : IntKind.i64.wrap ((p : Int) + (P.length : Int) - (e : Int)) = (p : Int) + P.length - e := by rw [IntKind.wrap_i64]; omega
    clear hM hL0 HUP
    go_wp2_with fail
    go_loopw [11] (fun v wr => ∃ (j : Nat) (L : List Nd), p + P.length ≤ j ∧ j ≤ M ∧ v = .int .i64 (j : Int) ∧ L.length = M ∧ Hid (MvTo L0 (p + P.length) e ((p : Int) + P.length - e) j L) ∧ Hid (OwnsN wr w.heap.size (.slice (some ⟨g, 0, none⟩) M cap) L) ∧ Hid (Below w.heap.size w wr)) (fun v _ => M - (intOf v).toNat)
    case atStart => exact ⟨p + P.length, L0, Nat.le_refl _, hMb, by go_num, hL0l, MvTo.start _ _ _ _, HOB.out.1, HOB.out.2⟩
    case round =>
      obtain ⟨j, L, hj1, hj2, rfl, hL, HMV, HO, HB⟩ := hrel
      by_cases hlt : j < M
      · have hjL : j < L.length := by omega
        have hj0 : j < L0.length := by omega
        obtain ⟨u, hu⟩ : ∃ u, u = L[j].up := ⟨_, rfl⟩
        have ho : OwnsN wr w.heap.size (.slice (some ⟨g, 0, none⟩) L.length cap) L := by rw [hL]; exact HO.out
        have a4 : wr.cell? ⟨g, j * 5 + 4, none⟩ = some (.int .i64 u) := by rw [hu]; exact row_up ho hjL
        have f4 : wr.frozen? ⟨g, j * 5 + 4, none⟩ = false := World.ownsRow.frozenAt ho _
        have hub : -1 ≤ u ∧ u ≤ 2 ^ 20 := by rw [hu, HMV.out.at hjL hj0]; exact HL0.out j hj0 hj1
        have hgB : w.heap.size ≤ g := (World.ownsRow.lt ho g rfl).1
        have i0' : (0 : Int) ≤ (j : Int) := by omega
        have i1' : (j : Int) < (M : Int) := by omega
        by_cases hue : (e : Int) ≤ u
        · have hd3 : IntKind.i64.wrap (u + ((p : Int) + (P.length : Int) - (e : Int))) = u + ((p : Int) + P.length - e) := by rw [IntKind.wrap_i64]; omega
          have HM2 : Hid (MvTo L0 (p + P.length) e ((p : Int) + P.length - e) (j + 1) (L.set j { L[j] with up := u + ((p : Int) + P.length - e) })) := by
            have := HMV.out.move hjL hj1 (by rw [← hu]; exact hue)
            rw [← hu] at this
            exact this
          have HO2 : Hid (OwnsN (wr.setCell ⟨g, j * 5 + 4, none⟩ (.int .i64 (u + ((p : Int) + P.length - e)))) w.heap.size (.slice (some ⟨g, 0, none⟩) M cap) (L.set j { L[j] with up := u + ((p : Int) + P.length - e) })) := by
            have := row_put (u := u + ((p : Int) + P.length - e)) ho hjL
            rw [hL] at this
            exact this
          have HB2 : Hid (Below w.heap.size w (wr.setCell ⟨g, j * 5 + 4, none⟩ (.int .i64 (u + ((p : Int) + P.length - e))))) := HB.out.setCell (p := ⟨g, j * 5 + 4, none⟩) hgB _
          clear ho hu
          go_wp2
          go_roundw
          case rel => exact ⟨j + 1, _, by omega, by omega, by go_num, by rw [List.length_set]; exact hL, HM2, HO2, HB2⟩
          case measure => simp [intOf]; omega
        · have HM2 : Hid (MvTo L0 (p + P.length) e ((p : Int) + P.length - e) (j + 1) L) := HMV.out.stay hjL (by rw [← hu]; exact hue)
          clear ho hu
          go_wp2
          go_roundw
          case rel => exact ⟨j + 1, L, by omega, by omega, by go_num, hL, HM2, HO, HB⟩
          case measure => simp [intOf]; omega
      · obtain rfl : j = M := by omega
        have HF : Hid (OwnsN wr w.heap.size (.slice (some ⟨g, 0, none⟩) j cap) (putL N n p e P)) := by
          show OwnsN _ _ _ _
          rw [← HDN.out L HMV.out]
          exact HO.out
        go_wp2
        go_ret
        exact ⟨_, rfl, HF.out, HB.out⟩

end Go.Proofs.YtadlflgflnlhjaaGreatDoor
