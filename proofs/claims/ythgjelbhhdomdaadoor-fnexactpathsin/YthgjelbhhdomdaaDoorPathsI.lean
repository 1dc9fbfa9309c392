/- The part of a name, and the node that names lead to: the program's partNamed and nodeAt. The paths of all nodes: the program's PathsIn. -/
import Derived.Test.YthgjelbhhdomdaaDoorPartsIt
import Derived.Test.YthgjelbhhdomdaaDoorStrs0
import Derived.Maps.AppendAt
import Derived.Test.YthgjelbhhdomdaaDoorPathsT
import Derived.Test.YthgjelbhhdomdaaDoorPathTO
import Derived.Test.YthgjelbhhdomdaaDoorSubI
import Derived.Test.YthgjelbhhdomdaaDoorStrsM
namespace Go.Proofs.YthgjelbhhdomdaaDoor
open Go.RowKit Go.Shelf
set_option linter.unusedVariables false
attribute [local go_sem] Oper.semAt_some

/-- The number of the first of that name. -/
def findP (l : List (ByteArray × Nat)) (name : ByteArray) : Option Nat := (l.find? fun x => x.1.toList == name.toList).map (·.2)
def PartIs (l : List (ByteArray × Nat)) (name : ByteArray) (w : World) (e : Ending) (w' : World) : Prop :=
  e = .returned (.tuple #[.int .i64 (((findP l name).getD 0 : Nat) : Int), .bool (findP l name).isSome]) ∧ Below w.heap.size w w'

def noneOf (name : ByteArray) (pre : List (ByteArray × Nat)) : Prop := ∀ x ∈ pre, (x.1.toList == name.toList) = false
def hitOf (name : ByteArray) (pre : List (ByteArray × Nat)) : Prop := ∃ pre0 x, pre = pre0 ++ [x] ∧ noneOf name pre0 ∧ (x.1.toList == name.toList) = true
def lastN (pre : List (ByteArray × Nat)) : Nat := (pre.getLast?.map (·.2)).getD 0
theorem find_none {name : ByteArray} {l : List (ByteArray × Nat)} (h : noneOf name l) : findP l name = none := by
  unfold findP
  rw [List.find?_eq_none.2 (fun x hx => by simp [h x hx])]
  rfl
theorem find_hit {name : ByteArray} {pre l : List (ByteArray × Nat)} (h : hitOf name pre) (hp : pre <+: l) : findP l name = some (lastN pre) := by
  obtain ⟨pre0, x, rfl, h0, hx⟩ := h
  obtain ⟨t, rfl⟩ := hp
  unfold findP lastN
  rw [List.append_assoc, List.find?_append, List.find?_eq_none.2 (fun y hy => by simp [h0 y hy])]
  simp [hx]

theorem keep3_b {w : World} {b1 b2 b3 : Nat} (h1 : b1 < w.heap.size) (h2 : b2 < w.heap.size) (h3 : b3 < w.heap.size) : ∀ (W : World) (l : Nat) (o o' : Obj), w.heap.size ≤ l → W.heap[l]? = some o → o.isCells = false → o.isWalk = false → Keep3 b1 b2 b3 W (W.putObj l o') := by
  intro W l o o' hl ho _ _
  have hlt : l < W.heap.size := (Array.getElem?_eq_some_iff.1 ho).1
  have hg := grownBy_putObj' W l o'
  exact ⟨hg.size, hg.block _ (by omega) (by simp; omega), hg.block _ (by omega) (by simp; omega), hg.block _ (by omega) (by simp; omega)⟩

set_option maxRecDepth 100000 in
set_option maxHeartbeats 4000000 in
theorem partNamed_in (b off c len k : Nat) (N : Nat → Nd) (name : ByteArray) (w : World) (hlen : len ≤ 80) (hk : k < len) (hup : ∀ i, i < len → (N i).up = (k : Int) → k < i) (hb : b < w.heap.size) (hat : NodesAt w b off len N) :
    CallsIn Fence.wide 5 Tryd.prog 96 #[.slice (some ⟨b, off, none⟩) len c, .int .i64 (k : Int), .string name] w (PartIs (partsTo N k len) name w) := by
  refine callsIn_of_wp_marks Tryd.func96 rfl trivial ?_ rfl
  simp only [Tryd.ntmps96, List.size_toArray, List.length_cons, List.length_nil, Nat.reduceAdd, Nat.reduceSub, Array.replicate_succ, Array.replicate_zero, List.push_toArray, List.append_toArray, List.nil_append, List.cons_append]
  gi_wp2_with fail
  refine ⟨trivial, (partsOf_in _ _ _ _ _ _).mono ?_⟩
  rintro e w' ⟨rfl, rfl⟩
  have bS := Boxed.new w 9 (.string name)
  have bR := Boxed.new (w.alloc (.cells #[.string name] 9)) 3 (.int .i64 0)
  have bQ := Boxed.new ((w.alloc (.cells #[.string name] 9)).alloc (.cells #[.int .i64 0] 3)) 4 (.bool false)
  have bN := Boxed.new (((w.alloc (.cells #[.string name] 9)).alloc (.cells #[.int .i64 0] 3)).alloc (.cells #[.bool false] 4)) 25 (.slice (some ⟨b, off, none⟩) len c)
  have bK := Boxed.new ((((w.alloc (.cells #[.string name] 9)).alloc (.cells #[.int .i64 0] 3)).alloc (.cells #[.bool false] 4)).alloc (.cells #[.slice (some ⟨b, off, none⟩) len c] 25)) 3 (.int .i64 (k : Int))
  simp only [World.size_alloc] at bR bQ bN bK
  have hB0 : Below w.heap.size w (((((w.alloc (.cells #[.string name] 9)).alloc (.cells #[.int .i64 0] 3)).alloc (.cells #[.bool false] 4)).alloc (.cells #[.slice (some ⟨b, off, none⟩) len c] 25)).alloc (.cells #[.int .i64 (k : Int)] 3)) := (((((Below.refl _ w).alloc (Nat.le_refl _) _).alloc (by simp) _).alloc (by simp; omega) _).alloc (by simp; omega) _).alloc (by simp; omega) _
  gi_wp2_with fail
  refine wpIn_rangeFunc_ownG rfl (by decide) (gf := 93) (lb := #[.pointer (some ⟨w.heap.size + 1 + 1 + 1, 0, none⟩), .pointer (some ⟨w.heap.size + 1 + 1 + 1 + 1, 0, none⟩)]) rfl trivial (enters_of Tryd.func93 (by kernel_rfl) rfl)
    (parts_stops 4 (w.heap.size + 1 + 1 + 1) (w.heap.size + 1 + 1 + 1 + 1) b off c len k N (by decide) hlen hk hup (Keep3 b (w.heap.size + 1 + 1 + 1) (w.heap.size + 1 + 1 + 1 + 1)) (fun _ _ h => h) _ (by simp) (by simp) (by simp; omega) (bN.alloc _).cell bK.cell (hat.below hB0 hb)) (fun h k => h.trans k) (keep3_b (by simp; omega) (by simp) (by simp)) (Below.refl _ _) (fun _ => rfl)
    (fun pre W => (noneOf name pre ∧ (Boxed W w.heap.size 9 (.string name) ∧ (Boxed W (w.heap.size + 1) 3 (.int .i64 0) ∧ Boxed W (w.heap.size + 1 + 1) 4 (.bool false)))) ∧ Below w.heap.size w W)
    (fun c pre W => ((c = .ret ∧ hitOf name pre) ∧ (Boxed W (w.heap.size + 1) 3 (.int .i64 (lastN pre : Nat)) ∧ Boxed W (w.heap.size + 1 + 1) 4 (.bool true))) ∧ Below w.heap.size w W)
    (OwnFrom.and (OwnFrom.and (ownFrom_pure _ _) (OwnFrom.and (Own.from (boxed_own _ _ _) _) (OwnFrom.and (Own.from (boxed_own _ _ _) _) (Own.from (boxed_own _ _ _) _)))) (ownFrom_below (Nat.le_refl _) (by simp; omega)))
    (fun c => OwnFrom.and (OwnFrom.and (ownFrom_pure _ _) (OwnFrom.and (Own.from (boxed_own _ _ (fun pre => .int .i64 (lastN pre : Nat))) _) (Own.from (boxed_own _ _ _) _))) (ownFrom_below (Nat.le_refl _) (by simp; omega)))
    ⟨⟨fun x hx => by simp at hx, (((bS.alloc _).alloc _).alloc _).alloc _, ((bR.alloc _).alloc _).alloc _, (bQ.alloc _).alloc _⟩, hB0⟩
    (fun x => { tmps := #[.slice (some ⟨b, off, none⟩) len c, .int .i64 (k : Int), .string name, undef, undef, .pointer (some ⟨w.heap.size, 0, none⟩), .pointer (some ⟨w.heap.size + 1, 0, none⟩), .pointer (some ⟨w.heap.size + 1 + 1, 0, none⟩), .string x.1, .int .i64 (x.2 : Int), .slice (some ⟨b, off, none⟩) len c, .int .i64 (k : Int), .func (.func 93) #[] #[.pointer (some ⟨w.heap.size + 1 + 1 + 1, 0, none⟩), .pointer (some ⟨w.heap.size + 1 + 1 + 1 + 1, 0, none⟩)], .string x.1, .int .i64 (x.2 : Int), undef, undef, undef, undef], defers := [] }) ?assign ?body ?done ?stop
  case assign =>
    intro l x W K hK
    dsimp only [encSP]
    gi_wp2
    exact hK
  case body =>
    rintro l pre ⟨nm, p⟩ W ⟨⟨hno, hbS, hbR, hbQ⟩, hB⟩ hlt
    have cS := hbS.cell
    cases heq : (nm.toList == name.toList) with
    | true =>
      have cR := hbR.cell
      have fR := hbR.frozen
      have hQ1 : Boxed (W.setCell ⟨w.heap.size + 1, 0, none⟩ (.int .i64 (p : Int))) (w.heap.size + 1 + 1) 4 (.bool false) := hbQ.other (by omega) _
      have cQ1 := hQ1.cell
      have fQ1 := hQ1.frozen
      have hQ2 := hQ1.set (.bool true)
      have hR2 := (hbR.set (.int .i64 (p : Int))).other (show w.heap.size + 1 ≠ w.heap.size + 1 + 1 by omega) (.bool true)
      gi_wp2
      exact ⟨((KeepsOthers.setCell _ _ _).trans (KeepsOthers.setCell _ _ _)).from _, ⟨⟨rfl, pre, (nm, p), rfl, hno, heq⟩, by simpa [lastN] using hR2, hQ2⟩, (hB.setCell (p := ⟨w.heap.size + 1, 0, none⟩) (by simp) _).setCell (p := ⟨w.heap.size + 1 + 1, 0, none⟩) (by simp; omega) _⟩
    | false =>
      gi_wp2
      exact ⟨KeepsFrom.refl _ _, Keep3.refl _ _ _ _, ⟨fun x hx => by rcases List.mem_append.1 hx with hx | hx; exact hno x hx; simp at hx; subst hx; exact heq, hbS, hbR, hbQ⟩, hB⟩
  case done =>
    rintro D ys W hD rfl ⟨⟨hno, hbS, hbR, hbQ⟩, hB⟩ hK
    have HF : Hid (findP (partsTo N k len) name = none) := find_none hno
    have cR := hbR.cell
    have fR := hbR.frozen
    have hQ1 : Boxed (W.setCell ⟨w.heap.size + 1, 0, none⟩ (.int .i64 0)) (w.heap.size + 1 + 1) 4 (.bool false) := hbQ.other (by omega) _
    have cQ1 := hQ1.cell
    have fQ1 := hQ1.frozen
    have hQ2 := hQ1.set (.bool false)
    have hR2 := (hbR.set (.int .i64 0)).other (show w.heap.size + 1 ≠ w.heap.size + 1 + 1 by omega) (.bool false)
    have hK' := ((KeepsOthers.setCell W ⟨w.heap.size + 1, 0, none⟩ (.int .i64 0)).trans (KeepsOthers.setCell _ ⟨w.heap.size + 1 + 1, 0, none⟩ (.bool false))).same D _ hK rfl
    have hB2 := (hB.setCell (p := ⟨w.heap.size + 1, 0, none⟩) (by simp) (.int .i64 0)).setCell (p := ⟨w.heap.size + 1 + 1, 0, none⟩) (by simp; omega) (.bool false)
    gi_wp2
    refine ⟨by simp, .inl ⟨_, _, rfl, run_takeDeferred hK', ?_⟩⟩
    have kR := cell_kept hR2.cell (grownBy_putObj' _ D (.deferred none)) (fun r e => by cases e; exact ⟨_, hK', rfl⟩)
    have kQ := cell_kept hQ2.cell (grownBy_putObj' _ D (.deferred none)) (fun r e => by cases e; exact ⟨_, hK', rfl⟩)
    refine ⟨.tuple #[.int .i64 0, .bool false], ?_, by rw [HF.out]; rfl, hB2.trans (belowK_b (w := w) (Nat.le_refl _) _ D _ _ (by simp at hD; omega) hK' rfl rfl)⟩
    simp [results, Tryd.f96, go_sem, kR, kQ]
  case stop =>
    rintro D c' pre W hD hpre ⟨⟨⟨rfl, hhit⟩, hbR, hbQ⟩, hB⟩ hK
    have HF : Hid (findP (partsTo N k len) name = some (lastN pre)) := find_hit hhit hpre
    gi_wp2
    refine ⟨by simp, .inl ⟨_, _, rfl, run_takeDeferred hK, ?_⟩⟩
    have kR := cell_kept hbR.cell (grownBy_putObj' _ D (.deferred none)) (fun r e => by cases e; exact ⟨_, hK, rfl⟩)
    have kQ := cell_kept hbQ.cell (grownBy_putObj' _ D (.deferred none)) (fun r e => by cases e; exact ⟨_, hK, rfl⟩)
    refine ⟨.tuple #[.int .i64 (lastN pre : Nat), .bool true], ?_, by rw [HF.out]; rfl, hB.trans (belowK_b (w := w) (Nat.le_refl _) _ D _ _ (by simp at hD; omega) hK rfl rfl)⟩
    simp [results, Tryd.f96, go_sem, kR, kQ]

end Go.Proofs.YthgjelbhhdomdaaDoor
namespace Go.Proofs.YthgjelbhhdomdaaDoor
open Go.RowKit Go.Shelf
set_option linter.unusedVariables false
attribute [local go_sem] Oper.semAt_some

/-- All paths are short enough. -/
def GoodPaths (N : Nat → Nd) (n : Nat) : Prop := ∀ p, p < n → (pth N p).length ≤ 60
def PsTold (N : Nat → Nd) (n : Nat) (q : Bool) (m : Nat) (f : Nat → ByteArray) : Prop :=
  (q = true ∧ (GoodV N n ∧ GoodPaths N n) ∧ m = n ∧ f = fun p => strL (pth N p)) ∨ (q = false ∧ ¬ (GoodV N n ∧ GoodPaths N n) ∧ m = 0 ∧ f = fun _ => ⟨#[]⟩)
theorem PsTold.same {N : Nat → Nd} {n m m' : Nat} {q q' : Bool} {f f' : Nat → ByteArray} (h : PsTold N n q m f) (k : PsTold N n q' m' f') : q = q' ∧ m = m' ∧ f = f' := by
  rcases h with ⟨rfl, g, rfl, rfl⟩ | ⟨rfl, g, rfl, rfl⟩ <;> rcases k with ⟨rfl, g', rfl, rfl⟩ | ⟨rfl, g', rfl, rfl⟩
  · exact ⟨rfl, rfl, rfl⟩
  · exact absurd g g'
  · exact absurd g' g
  · exact ⟨rfl, rfl, rfl⟩
def PathsIs (N : Nat → Nd) (n : Nat) (w : World) (e : Ending) (w' : World) : Prop :=
  ∃ v q g m f, e = .returned (.tuple #[v, .bool q]) ∧ PsTold N n q m f ∧ w.heap.size ≤ g ∧ OwnS w' g v m f ∧ Below w.heap.size w w'
theorem PathsIs.no {N : Nat → Nd} {n : Nat} {w w' : World} (h : ¬ (GoodV N n ∧ GoodPaths N n)) (hb : Below w.heap.size w w') : PathsIs N n w (.returned (.tuple #[.slice none 0 0, .bool false])) w' :=
  ⟨_, _, w.heap.size, 0, _, rfl, .inr ⟨rfl, h, rfl, rfl⟩, Nat.le_refl _, ⟨none, 0, rfl, by simp, .inl rfl⟩, hb⟩

/-- What stands in the list when all parts of nodes ahead of k have been told, and of k those of pre. -/
def fP (N : Nat → Nd) (k : Nat) (pre : List Nat) (p : Nat) : ByteArray := strL (if p = 0 ∨ par N p < k ∨ p ∈ pre then pth N p else [])
theorem fP_set {N : Nat → Nd} {k p : Nat} {pre : List Nat} : (fun i => if i = p then strL (pth N p) else fP N k pre i) = fP N k (pre ++ [p]) := by
  funext i
  unfold fP
  by_cases e : i = p
  · subst e; simp
  · rw [if_neg e]
    congr 2
    simp [e]

def mkD (D : Nat) : Deferred := { target := .collected D, args := #[] }

theorem leaves_all {F : Fence} {m : Nat} {P : Program} {fn : Func} {tmps : Array Value} {R : Ending → World → Prop} : ∀ (Ds : List Nat) (W : World), Ds.Nodup → (∀ D ∈ Ds, W.heap[D]? = some (.deferred (some []))) →
    (∀ W' : World, W'.heap.size = W.heap.size → (∀ b, b ∉ Ds → W'.heap[b]? = W.heap[b]?) → W'.os = W.os → W'.tape = W.tape → W'.output = W.output → LeavesInM F m P fn tmps R [] .returning W') → LeavesInM F m P fn tmps R (Ds.map mkD) .returning W := by
  intro Ds
  induction Ds with
  | nil => intro W _ _ h; exact h W rfl (fun _ _ => rfl) rfl rfl rfl
  | cons D r ih =>
    intro W hnd hd h
    have hD := hd D (by simp)
    have hg := grownBy_putObj' W D (.deferred none)
    have hsz : (W.putObj D (.deferred none)).heap.size = W.heap.size := by simp [World.putObj]
    rw [List.nodup_cons] at hnd
    have hblk : ∀ b, b ≠ D → (W.putObj D (.deferred none)).heap[b]? = W.heap[b]? := fun b hb => by
      by_cases hl : b < W.heap.size
      · exact hg.block b hl (fun e => hb (by cases e; rfl))
      · rw [Array.getElem?_eq_none (by omega), Array.getElem?_eq_none (by omega)]
    refine ⟨by simp, .inl ⟨D, _, rfl, run_takeDeferred hD, ih _ hnd.2 (fun E hE => ?_) (fun W' h1 h2 h3 h4 h5 => ?_)⟩⟩
    · rw [hblk E (fun e => hnd.1 (e ▸ hE))]
      exact hd E (by simp [hE])
    · refine h W' (h1.trans hsz) (fun b hb => ?_) (h3.trans hg.os) (h4.trans hg.tape) (h5.trans hg.output)
      simp only [List.mem_cons, not_or] at hb
      rw [h2 b hb.2, hblk b hb.1]

theorem strs_own {β : Type} (g n : Nat) (f : β → Nat → ByteArray) : Own (fun s W => StrsAt W g n (f s)) := fun s X Y row hs hg hr i hi =>
  ⟨cell_kept (hs i hi).1 hg hr, (frozen_kept (hs i hi).1 hg hr).trans (hs i hi).2⟩
theorem def_own {β : Type} (B : Nat) (Ds : List Nat) (h : ∀ D ∈ Ds, D < B) : OwnFrom B (fun (_ : β) W => ∀ D ∈ Ds, W.heap[D]? = some (Obj.deferred (some []))) := fun s X Y row hs hg hr D hD => by
  rw [hg.block D (Array.getElem?_eq_some_iff.1 (hs D hD)).1 (fun e => by
    have h1 := (hr D e.symm).1
    have h2 := h D hD
    omega)]
  exact hs D hD
theorem size_own {β : Type} (B m : Nat) : OwnFrom B (fun (_ : β) W => m ≤ W.heap.size) := fun s X Y row hs hg hr => Nat.le_trans hs hg.size
theorem grown_set (W : World) (a : Addr) (v : Value) : W.grownBy (W.setCell a v) (some a.block) :=
  ⟨rfl, rfl, rfl, (KeepsWalks.setCell W _ v).size, fun k _ hk => Below.heap_setCell _ _ _ k (fun e => hk (by rw [e]))⟩
theorem below_others {W W' : World} (h : Below W.heap.size W W') : KeepsOthers W W' := ⟨h.size, fun k o hk _ => (h.block k (Array.getElem?_eq_some_iff.1 hk).1).trans hk⟩

/-- The names of parts are printed. -/
theorem digit_ok {d : Nat} (h : d < 10) : (decide (32 ≤ (UInt8.ofNat (48 + d)).toNat) && decide ((UInt8.ofNat (48 + d)).toNat ≤ 126)) = true := by
  have : (UInt8.ofNat (48 + d)).toNat = 48 + d := by rw [UInt8.toNat_ofNat']; omega
  rw [this, decide_eq_true (by omega), decide_eq_true (by omega)]
  rfl
theorem plain_short {s : ByteArray} (h : plainB s = true) : s.size ≤ 24 := by
  unfold plainB at h
  simp only [Bool.and_eq_true, decide_eq_true_eq] at h
  omega
theorem digits_plain (i : Nat) (h : i < 100) : plainB (strL (Lib.decDigits i)) = true := by
  rw [plain_okL]
  unfold okL
  by_cases h10 : i < 10
  · rw [Lib.decDigits_one h10]
    simp only [List.length_cons, List.length_nil, List.all_cons, List.all_nil, Bool.and_true]
    rw [digit_ok h10]
    rfl
  · rw [Lib.decDigits_two h10 h]
    simp only [List.length_cons, List.length_nil, List.all_cons, List.all_nil, Bool.and_true]
    rw [digit_ok (show i / 10 < 10 by omega), digit_ok (show i % 10 < 10 by omega)]
    rfl

/-- What is known of a part that the iterator hands on. -/
theorem part_facts {N : Nat → Nd} {n k : Nat} (hg : GoodV N n) {x : ByteArray × Nat} (hx : x ∈ partsTo N k n) : k < x.2 ∧ x.2 < n ∧ par N x.2 = k ∧ plainB x.1 = true ∧ onPath (pth N k) x.1 = pth N x.2 := by
  obtain ⟨i, hi⟩ := List.mem_iff_getElem?.1 hx
  unfold partsTo at hi
  rw [List.getElem?_map] at hi
  obtain ⟨y, hy, rfl⟩ := Option.map_eq_some_iff.1 hi
  rw [List.getElem?_zipIdx] at hy
  obtain ⟨p, hp, rfl⟩ := Option.map_eq_some_iff.1 hy
  have hm := kidsTo_mem (List.mem_of_getElem? hp)
  have hpar := par_up hm.2.2
  have hil : i < (kidsTo N k n).length := (List.getElem?_eq_some_iff.1 hp).1
  have hord : (kidsTo N k p).length = i := by
    obtain ⟨t, ht⟩ := kidsTo_prefix N k (p + 1) (n - (p + 1))
    rw [show p + 1 + (n - (p + 1)) = n by omega, kidsTo, if_pos ⟨hm.1, hm.2.2⟩] at ht
    have hq : (kidsTo N k n)[(kidsTo N k p).length]? = some p := by rw [ht, List.append_assoc, List.getElem?_append_right (Nat.le_refl _)]; simp
    have hnd : ∀ (a b : Nat), (kidsTo N k n)[a]? = some p → (kidsTo N k n)[b]? = some p → a = b := by
      have hs : ∀ j, (kidsTo N k j).Pairwise (· < ·) := by
        intro j
        induction j with
        | zero => exact List.Pairwise.nil
        | succ j ih =>
          rw [kidsTo]
          split
          · rw [List.pairwise_append]
            refine ⟨ih, by simp, fun a ha b hb => ?_⟩
            simp at hb; subst hb
            exact (kidsTo_mem ha).2.1
          · exact ih
      intro a b ha hb
      have hal := (List.getElem?_eq_some_iff.1 ha)
      have hbl := (List.getElem?_eq_some_iff.1 hb)
      obtain ⟨hal, hae⟩ := hal
      obtain ⟨hbl, hbe⟩ := hbl
      have hpw := List.pairwise_iff_getElem.1 (hs n)
      rcases Nat.lt_trichotomy a b with h | h | h
      · have := hpw a b hal hbl h; omega
      · exact h
      · have := hpw b a hbl hal h; omega
    exact hnd _ _ hq hp
  have hi80 : i < 80 := by have := kids_len N k n; have := hg.1.2.1; omega
  simp only [Nat.zero_add]
  refine ⟨hm.1, hm.2.1, hpar, ?_, ?_⟩
  · unfold nmAt
    split
    · exact digits_plain i (by omega)
    · exact name_plain (hg.1.2.2 p hm.2.1).2.1
  · rw [pth_step (good_pre hg) (by omega) hm.2.1 hpar, hord]

theorem box_left {W W' : World} {B x : Nat} {t : TypeId} {v : Value} {Ds : List Nat} (hd : ∀ E ∈ Ds, B ≤ E ∧ W.heap[E]? = some (.deferred (some []))) (h2 : ∀ b, b ∉ Ds → W'.heap[b]? = W.heap[b]?) (h : Boxed W x t v) : Boxed W' x t v := by
  refine (h2 x (fun hx => ?_)).trans h
  have := (hd x hx).2
  rw [show W.heap[x]? = _ from h] at this
  cases this
theorem below_left {W W' : World} {B : Nat} {Ds : List Nat} (hd : ∀ E ∈ Ds, B ≤ E ∧ W.heap[E]? = some (.deferred (some []))) (h1 : W'.heap.size = W.heap.size) (h2 : ∀ b, b ∉ Ds → W'.heap[b]? = W.heap[b]?) (h3 : W'.os = W.os) (h4 : W'.tape = W.tape) (h5 : W'.output = W.output) : Below B W W' :=
  ⟨h3, h4, h5, by omega, fun k hk => h2 k (fun hx => by have := (hd k hx).1; omega)⟩
theorem strs_left {W W' : World} {B g n : Nat} {f : Nat → ByteArray} {Ds : List Nat} (hd : ∀ E ∈ Ds, B ≤ E ∧ W.heap[E]? = some (.deferred (some []))) (h2 : ∀ b, b ∉ Ds → W'.heap[b]? = W.heap[b]?) (h : StrsAt W g n f) : StrsAt W' g n f := fun i hi => by
  have h3 := (h i hi).1
  have h4 := (h i hi).2
  have e := h2 g (fun hx => by
    have := (hd g hx).2
    unfold World.cell? at h3
    dsimp only at h3
    rw [this] at h3
    simp at h3)
  unfold World.cell? at h3 ⊢
  unfold World.frozen? at h4 ⊢
  dsimp only at h3 h4 ⊢
  rw [e]
  exact ⟨h3, h4⟩
theorem fP_own {N : Nat → Nd} {n k : Nat} (hg : GoodV N n) (hk : k < n) (pre : List Nat) : fP N k pre k = strL (pth N k) := by
  unfold fP
  rw [if_pos]
  by_cases h0 : k = 0
  · exact .inl h0
  · exact .inr (.inl (par_lt (good_pre hg) (by omega) hk))
def numsOf {N : Nat → Nd} {k n : Nat} (l : List (PartOf N k n)) : List Nat := l.map (·.1.2)
theorem numsOf_snoc {N : Nat → Nd} {k n : Nat} (l : List (PartOf N k n)) (x : PartOf N k n) : numsOf (l ++ [x]) = numsOf l ++ [x.1.2] := by simp [numsOf]
theorem nums_all {N : Nat → Nd} {k n : Nat} {ys : List (PartOf N k n)} (h : valsOf ys = partsTo N k n) : numsOf ys = kidsTo N k n := by
  have h1 : numsOf ys = (valsOf ys).map (·.2) := by simp [numsOf, valsOf]
  rw [h1, h]
  unfold partsTo
  rw [List.map_map]
  have : ∀ (l : List Nat) (j : Nat), (l.zipIdx j).map ((fun x : ByteArray × Nat => x.2) ∘ fun x : Nat × Nat => (nmAt N k x.2 x.1, x.1)) = l := by
    intro l
    induction l with
    | nil => intro j; rfl
    | cons a l ih => intro j; rw [List.zipIdx_cons, List.map_cons, ih]; rfl
  exact this _ 0
theorem par_is {N : Nat → Nd} {n p : Nat} (hg : GoodV N n) (h0 : 0 < p) (hp : p < n) : (N p).up = (par N p : Int) ∧ par N p < p := by
  have := (good_pre hg).2 p h0 hp
  unfold par
  omega
theorem up_gt {N : Nat → Nd} {n k : Nat} (hg : GoodV N n) : ∀ i, i < n → (N i).up = (k : Int) → k < i := by
  intro i hi hu
  by_cases h0 : i = 0
  · subst h0
    have := (good_pre hg).1
    omega
  · have := par_is hg (by omega) hi
    omega
theorem fP_done {N : Nat → Nd} {n k : Nat} (hg : GoodV N n) {ys : List (PartOf N k n)} (h : valsOf ys = partsTo N k n) (p : Nat) (hp : p < n) : fP N k (numsOf ys) p = fP N (k + 1) [] p := by
  unfold fP
  congr 2
  rw [nums_all h]
  by_cases h0 : p = 0
  · simp [h0]
  · obtain ⟨h1, h2⟩ := par_is hg (by omega) hp
    simp only [h0, false_or, List.not_mem_nil, or_false, eq_iff_iff]
    constructor
    · rintro (h3 | h3)
      · omega
      · have := par_up (kidsTo_mem h3).2.2
        omega
    · intro h3
      by_cases h4 : par N p < k
      · exact .inl h4
      · have h5 : par N p = k := by omega
        exact .inr (kidsTo_has (by omega) hp (by rw [h1, h5]))
theorem short_done {N : Nat → Nd} {n k : Nat} (hg : GoodV N n) {ys : List (PartOf N k n)} (h : valsOf ys = partsTo N k n) (h1 : ∀ p, p < n → 0 < p → par N p < k → (pth N p).length ≤ 60) (h2 : ∀ p ∈ numsOf ys, (pth N p).length ≤ 60) : ∀ p, p < n → 0 < p → par N p < k + 1 → (pth N p).length ≤ 60 := by
  intro p hp h0 hlt
  obtain ⟨h3, h4⟩ := par_is hg h0 hp
  by_cases h5 : par N p < k
  · exact h1 p hp h0 h5
  · have h6 : par N p = k := by omega
    refine h2 p ?_
    rw [nums_all h]
    exact kidsTo_has (by omega) hp (by rw [h3, h6])
theorem path_str {N : Nat → Nd} {k p : Nat} {nm : ByteArray} (h : onPath (pth N k) nm = pth N p) : strL (pth N k) ++ strL (47 :: pesc nm.data.toList) = strL (pth N p) := by
  rw [strL_append, ← h]
  rfl

set_option maxRecDepth 100000 in
set_option maxHeartbeats 4000000 in
theorem implPaths_in (b n : Nat) (a : Option Addr) (c : Nat) (N : Nat → Nd) (w : World) (h : OwnAt w b (.slice a n c) n N) (hsm : SmallN n N) (htab : Tab w.heap.size w) (hml : ML w) :
    CallsIn Fence.wide 6 Tryd.prog 31 #[.agg #[.slice a n c]] w (PathsIs N n w) := by
  have HO : Hid (OwnAt w b (.slice a n c) n N) := h
  have HSM : Hid (SmallN n N) := hsm
  have HTB : Hid (Tab w.heap.size w) := htab
  have HML : Hid (ML w) := hml
  have n20 : n ≤ 2 ^ 20 := hsm.1
  clear h hsm htab hml
  refine callsIn_of_wp_marks Tryd.func31 rfl trivial ?_ rfl
  simp only [Tryd.ntmps31, List.size_toArray, List.length_cons, List.length_nil, Nat.reduceAdd, Nat.reduceSub, Array.replicate_succ, Array.replicate_zero, List.push_toArray, List.append_toArray, List.nil_append, List.cons_append]
  obtain ⟨W0, hW0⟩ : ∃ W0, ((w.alloc (.cells #[.slice a n c] 27)).alloc (.cells #[.slice none 0 0] 39)).alloc (.cells #[.bool false] 4) = W0 := ⟨_, rfl⟩
  have hb0 : Below w.heap.size w W0 := by rw [← hW0]; exact (((Below.refl _ w).alloc (Nat.le_refl _) _).alloc (by simp) _).alloc (by simp; omega) _
  have hs0 : W0.heap.size = w.heap.size + 3 := by rw [← hW0]; simp
  have bV : Boxed W0 w.heap.size 27 (.slice a n c) := by rw [← hW0]; exact ((Boxed.new w _ _).alloc _).alloc _
  have bR : Boxed W0 (w.heap.size + 1) 39 (.slice none 0 0) := by
    rw [← hW0]
    have := Boxed.new (w.alloc (.cells #[.slice a n c] 27)) 39 (.slice none 0 0)
    rw [World.size_alloc] at this
    exact this.alloc _
  have bQ : Boxed W0 (w.heap.size + 1 + 1) 4 (.bool false) := by
    rw [← hW0]
    have := Boxed.new ((w.alloc (.cells #[.slice a n c] 27)).alloc (.cells #[.slice none 0 0] 39)) 4 (.bool false)
    rw [World.size_alloc, World.size_alloc] at this
    exact this
  have cV0 := bV.cell
  gi_wp2_with fail
  refine ⟨trivial, (callsIn_wide.2 (implGood_own b n a c N W0 (HO.out.below hb0) HSM.out (HTB.out.up hb0))).mono ?_⟩
  rintro e w1 ⟨q, rfl, hq, hb1⟩
  have hB1 : Below w.heap.size w w1 := hb0.trans (hb1.mono hb0.size)
  have keep : ∀ {x : Nat} {t : TypeId} {v : Value}, Boxed W0 x t v → Boxed w1 x t v := fun hbx => (hb1.block _ hbx.lt).trans hbx
  have bV1 := keep bV
  have bR1 := keep bR
  have bQ1 := keep bQ
  have hs1 : w.heap.size + 3 ≤ w1.heap.size := by have := hb1.size; omega
  clear keep bV bR bQ hb1 hW0 hs0 hb0
  cases q with
  | false =>
    have HN : Hid (¬ (GoodV N n ∧ GoodPaths N n)) := fun h => by have := hq.2 h.1; simp at this
    have cR := bR1.cell
    have fR := bR1.frozen
    have bQ2 : Boxed (w1.setCell ⟨w.heap.size + 1, 0, none⟩ (.slice none 0 0)) (w.heap.size + 1 + 1) 4 (.bool false) := bQ1.other (by omega) _
    have cQ := bQ2.cell
    have fQ := bQ2.frozen
    have fQ0 := bQ1.frozen
    have cQ0 := bQ1.cell
    have bQ3 := bQ2.set (.bool false)
    have bR3 := (bR1.set (.slice none 0 0)).other (show w.heap.size + 1 ≠ w.heap.size + 1 + 1 by omega) (.bool false)
    have hB3 := (hB1.setCell (p := ⟨w.heap.size + 1, 0, none⟩) (by simp) (.slice none 0 0)).setCell (p := ⟨w.heap.size + 1 + 1, 0, none⟩) (by simp; omega) (.bool false)
    clear hq
    gi_wp2
    have kR := bR3.cell
    have kQ := bQ3.cell
    refine ⟨.tuple #[.slice none 0 0, .bool false], ?_, PathsIs.no HN.out hB3⟩
    simp [results, Tryd.f31, go_sem, kR, kQ]
  | true =>
    have HG : Hid (GoodV N n) := hq.1 rfl
    clear hq
    have n80 : n ≤ 80 := HG.out.1.2.1
    obtain ⟨b1, o1, rfl, hb1, hat1⟩ := own_some HO.out HG.out.1.1
    have HAT : Hid (NodesAt w b1 o1 n N) := hat1
    have cV := bV1.cell
    have hmw := make_strs n (by omega) w1
    have cV2 : ((w1.alloc (.cells (madeCells #[.string ⟨#[]⟩] n) 9)).alloc (.cells #[.slice (some ⟨w1.heap.size, 0, none⟩) n n] 39)).cell? ⟨w.heap.size, 0, none⟩ = some (.slice (some ⟨b1, o1, none⟩) n c) := ((bV1.alloc _).alloc _).cell
    gi_wp2_with fail
    obtain ⟨W2, hW2⟩ : ∃ W2, (w1.alloc (.cells (madeCells #[.string ⟨#[]⟩] n) 9)).alloc (.cells #[.slice (some ⟨w1.heap.size, 0, none⟩) n n] 39) = W2 := ⟨_, rfl⟩
    rw [hW2]
    have st2 : StrsAt W2 w1.heap.size n (fP N 0 []) := by
      have h1 := (strs_made n w1 9).below ((Below.refl _ _).alloc (Nat.le_refl _) (.cells #[.slice (some ⟨w1.heap.size, 0, none⟩) n n] 39)) (by simp)
      rw [hW2] at h1
      refine h1.congr fun p hp => ?_
      unfold fP
      by_cases h0 : p = 0
      · subst h0; rw [if_pos (.inl rfl), pth_zero]; rfl
      · rw [if_neg (by simp [h0])]; rfl
    have bO2 : Boxed W2 (w1.heap.size + 1) 39 (.slice (some ⟨w1.heap.size, 0, none⟩) n n) := by
      rw [← hW2]
      have := Boxed.new (w1.alloc (.cells (madeCells #[.string ⟨#[]⟩] n) 9)) 39 (.slice (some ⟨w1.heap.size, 0, none⟩) n n)
      rwa [World.size_alloc] at this
    have bR2 : Boxed W2 (w.heap.size + 1) 39 (.slice none 0 0) := by rw [← hW2]; exact (bR1.alloc _).alloc _
    have bQ2 : Boxed W2 (w.heap.size + 1 + 1) 4 (.bool false) := by rw [← hW2]; exact (bQ1.alloc _).alloc _
    have bV2 : Boxed W2 w.heap.size 27 (.slice (some ⟨b1, o1, none⟩) n c) := by rw [← hW2]; exact (bV1.alloc _).alloc _
    have hB2 : Below w.heap.size w W2 := by rw [← hW2]; exact (hB1.alloc hB1.size _).alloc (by simp; omega) _
    have hs2 : W2.heap.size = w1.heap.size + 2 := by rw [← hW2]; simp
    clear hW2 hmw bR1 bQ1 bV1 hB1 cV
    refine wpIn_loop (fun a' wr => ∃ (k : Nat) (u5 u21 u22 u23 u24 u25 u26 u44 : Value) (Ds : List Nat), a' = { tmps := #[.agg #[.slice (some ⟨b1, o1, none⟩) n c], .pointer (some ⟨w.heap.size, 0, none⟩), .pointer (some ⟨w.heap.size + 1, 0, none⟩), .pointer (some ⟨w.heap.size + 1 + 1, 0, none⟩), .pointer (some ⟨w1.heap.size + 1, 0, none⟩), u5, undef, undef, undef, undef, .agg #[.slice (some ⟨b1, o1, none⟩) n c], .bool true, .bool false, .pointer (some ⟨w.heap.size, 0, none⟩), .slice (some ⟨b1, o1, none⟩) n c, .int .i64 (n : Int), .slice (some ⟨w1.heap.size, 0, none⟩) n n, .pointer (some ⟨w.heap.size, 0, none⟩), .slice (some ⟨b1, o1, none⟩) n c, .int .i64 (n : Int), .int .i64 (k : Int), u21, u22, u23, u24, u25, u26, undef, undef, undef, undef, undef, undef, undef, undef, undef, undef, undef, undef, undef, undef, undef, undef, undef, u44, undef], defers := Ds.map mkD } ∧ k ≤ n ∧ w1.heap.size + 2 ≤ wr.heap.size ∧
        Hid ((StrsAt wr w1.heap.size n (fP N k []) ∧ (∀ p, p < n → 0 < p → par N p < k → (pth N p).length ≤ 60)) ∧ Boxed wr (w1.heap.size + 1) 39 (.slice (some ⟨w1.heap.size, 0, none⟩) n n) ∧ (Boxed wr (w.heap.size + 1) 39 (.slice none 0 0) ∧ Boxed wr (w.heap.size + 1 + 1) 4 (.bool false) ∧ Boxed wr w.heap.size 27 (.slice (some ⟨b1, o1, none⟩) n c)) ∧ (Ds.Nodup ∧ ∀ D ∈ Ds, w.heap.size ≤ D ∧ wr.heap[D]? = some (.deferred (some []))) ∧ Below w.heap.size w wr)) (fun a' _ => n - (intOf (a'.tmps.getD 20 undef)).toNat) ?_ ?_
    · exact ⟨0, _, _, _, _, _, _, _, _, [], rfl, Nat.zero_le _, by omega, ⟨st2, fun p hp h0 h1 => by omega⟩, bO2, ⟨bR2, bQ2, bV2⟩, ⟨by simp, fun D hD => by simp at hD⟩, hB2⟩
    · rintro a' wr ⟨k, u5, u21, u22, u23, u24, u25, u26, u44, Ds, rfl, hk, hzr, HP⟩
      obtain ⟨⟨st, hln⟩, bO, ⟨bR, bQ, bV⟩, ⟨hnd, hds⟩, hB⟩ := HP.out
      have cV := bV.cell
      by_cases hlt : k < n
      · have cV' := (bV.alloc (.cells #[.int .i64 (k : Int)] 3)).cell
        have n0 : (k : Int) < (n : Int) := by omega
        gi_wp2_with fail
        refine ⟨trivial, (partsOf_in _ _ _ _ _ _).mono ?_⟩
        rintro e w3 ⟨rfl, rfl⟩
        have bK := Boxed.new wr 3 (.int .i64 (k : Int))
        have bN := Boxed.new (wr.alloc (.cells #[.int .i64 (k : Int)] 3)) 25 (.slice (some ⟨b1, o1, none⟩) n c)
        have bI := Boxed.new ((wr.alloc (.cells #[.int .i64 (k : Int)] 3)).alloc (.cells #[.slice (some ⟨b1, o1, none⟩) n c] 25)) 3 (.int .i64 (k : Int))
        simp only [World.size_alloc] at bN bI
        have hB0 : Below wr.heap.size wr (((wr.alloc (.cells #[.int .i64 (k : Int)] 3)).alloc (.cells #[.slice (some ⟨b1, o1, none⟩) n c] 25)).alloc (.cells #[.int .i64 (k : Int)] 3)) := (((Below.refl _ wr).alloc (Nat.le_refl _) _).alloc (by simp) _).alloc (by simp; omega) _
        have hBw := hB.trans (hB0.mono hB.size)
        have hws : w.heap.size ≤ wr.heap.size := hB.size
        gi_wp2_with fail
        refine wpIn_rangeFunc_ownG rfl (by decide) (gf := 93) (lb := #[.pointer (some ⟨wr.heap.size + 1, 0, none⟩), .pointer (some ⟨wr.heap.size + 1 + 1, 0, none⟩)]) rfl trivial (enters_of Tryd.func93 (by kernel_rfl) rfl)
          (parts_stopsS 5 (wr.heap.size + 1) (wr.heap.size + 1 + 1) b1 o1 c n k N (by decide) n80 hlt (up_gt HG.out) (Keep3 b1 (wr.heap.size + 1) (wr.heap.size + 1 + 1)) (fun _ _ h => h) _ (by simp) (by simp) (by simp; omega) (bN.alloc _).cell bI.cell (HAT.out.below hBw hb1)) (fun h k => h.trans k) (keep3_b (by simp; omega) (by simp) (by simp)) (Below.refl _ _) (fun _ => rfl)
          (fun pre W => ((StrsAt W w1.heap.size n (fP N k (numsOf pre)) ∧ (∀ p ∈ numsOf pre, (pth N p).length ≤ 60)) ∧ (wr.heap.size + 3 ≤ W.heap.size ∧ Boxed W wr.heap.size 3 (.int .i64 (k : Int)) ∧ (Boxed W (w1.heap.size + 1) 39 (.slice (some ⟨w1.heap.size, 0, none⟩) n n) ∧ (Boxed W (w.heap.size + 1) 39 (.slice none 0 0) ∧ (Boxed W (w.heap.size + 1 + 1) 4 (.bool false) ∧ Boxed W w.heap.size 27 (.slice (some ⟨b1, o1, none⟩) n c))))) ∧ (∀ D ∈ Ds, W.heap[D]? = some (.deferred (some [])))) ∧ Below w.heap.size w W)
          (fun c' pre W => ((c' = .ret ∧ ¬ GoodPaths N n) ∧ (Boxed W (w.heap.size + 1) 39 (.slice none 0 0) ∧ Boxed W (w.heap.size + 1 + 1) 4 (.bool false)) ∧ (∀ D ∈ Ds, W.heap[D]? = some (.deferred (some [])))) ∧ Below w.heap.size w W)
          (OwnFrom.and (OwnFrom.and (OwnFrom.and (Own.from (strs_own _ _ (fun pre => fP N k (numsOf pre))) _) (ownFrom_pure _ _)) (OwnFrom.and (OwnFrom.and (size_own _ _) (OwnFrom.and (Own.from (boxed_own _ _ _) _) (OwnFrom.and (Own.from (boxed_own _ _ _) _) (OwnFrom.and (Own.from (boxed_own _ _ _) _) (OwnFrom.and (Own.from (boxed_own _ _ _) _) (Own.from (boxed_own _ _ _) _)))))) (def_own _ Ds (fun D hD => by have := (Array.getElem?_eq_some_iff.1 (hds D hD).2).1; simp; omega)))) (ownFrom_below (Nat.le_refl _) (by simp; omega)))
          (fun c' => OwnFrom.and (OwnFrom.and (ownFrom_pure _ _) (OwnFrom.and (OwnFrom.and (Own.from (boxed_own _ _ _) _) (Own.from (boxed_own _ _ _) _)) (def_own _ Ds (fun D hD => by have := (Array.getElem?_eq_some_iff.1 (hds D hD).2).1; simp; omega)))) (ownFrom_below (Nat.le_refl _) (by simp; omega)))
          ⟨⟨⟨st.below hB0 (by omega), fun p hp => by simp [numsOf] at hp⟩, ⟨by simp, (bK.alloc _).alloc _, ((bO.alloc _).alloc _).alloc _, ((bR.alloc _).alloc _).alloc _, ((bQ.alloc _).alloc _).alloc _, ((bV.alloc _).alloc _).alloc _⟩, fun D hD => (hB0.block D (Array.getElem?_eq_some_iff.1 (hds D hD).2).1).trans (hds D hD).2⟩, hBw⟩
          (fun x => { tmps := #[.agg #[.slice (some ⟨b1, o1, none⟩) n c], .pointer (some ⟨w.heap.size, 0, none⟩), .pointer (some ⟨w.heap.size + 1, 0, none⟩), .pointer (some ⟨w.heap.size + 1 + 1, 0, none⟩), .pointer (some ⟨w1.heap.size + 1, 0, none⟩), .pointer (some ⟨wr.heap.size, 0, none⟩), .string x.1.1, .int .i64 (x.1.2 : Int), undef, undef, .agg #[.slice (some ⟨b1, o1, none⟩) n c], .bool true, .bool false, .pointer (some ⟨w.heap.size, 0, none⟩), .slice (some ⟨b1, o1, none⟩) n c, .int .i64 (n : Int), .slice (some ⟨w1.heap.size, 0, none⟩) n n, .pointer (some ⟨w.heap.size, 0, none⟩), .slice (some ⟨b1, o1, none⟩) n c, .int .i64 (n : Int), .int .i64 (k : Int), .bool true, .int .i64 (k : Int), .pointer (some ⟨w.heap.size, 0, none⟩), .slice (some ⟨b1, o1, none⟩) n c, .int .i64 (k : Int), .func (.func 93) #[] #[.pointer (some ⟨wr.heap.size + 1, 0, none⟩), .pointer (some ⟨wr.heap.size + 1 + 1, 0, none⟩)], .string x.1.1, .int .i64 (x.1.2 : Int), undef, undef, undef, undef, undef, undef, undef, undef, undef, undef, undef, undef, undef, undef, undef, u44, undef], defers := [] }) ?assign ?body ?done ?stop
        case assign =>
          intro l x W K hK
          dsimp only [encSP]
          gi_wp2
          exact hK
        case body =>
          rintro l pre ⟨⟨nm, p⟩, hx⟩ W ⟨⟨⟨st', hl'⟩, ⟨hsz, hbK, hbO, hbR, hbQ, hbV⟩, hdf⟩, hB'⟩ hlt'
          obtain ⟨hkp, hpn, hpar, hpl, hon⟩ := part_facts HG.out hx
          have HON : Hid (strL (pth N k) ++ strL (47 :: pesc nm.data.toList) = strL (pth N p)) := path_str hon
          have HPL : Hid (plainB nm = true) := hpl
          have HL : Hid (∀ p ∈ numsOf pre, (pth N p).length ≤ 60) := hl'
          have HDF : Hid (∀ D ∈ Ds, W.heap[D]? = some (.deferred (some []))) := hdf
          have HST : Hid (StrsAt W w1.heap.size n (fP N k (numsOf pre))) := st'
          have hpk : (pth N k).length ≤ 60 := by
            by_cases h0 : k = 0
            · subst h0; rw [pth_zero]; simp
            · exact HP.out.1.2 k hlt (by omega) (par_lt (good_pre HG.out) (by omega) hlt)
          have cK := hbK.cell
          have cO := hbO.cell
          have cS := (st' k hlt).1
          rw [fP_own HG.out hlt] at cS
          have i0 : (0 : Int) ≤ (k : Int) := by omega
          have hnm : nm.size ≤ 2 ^ 24 := Nat.le_trans (plain_short hpl) (by decide)
          clear hon hpl hl' hdf st'
          gi_wp2_with fail
          refine ⟨trivial, (CallsIn.inRound l (callsIn_wide.2 (pathOn_any (strL (pth N k)) nm W (by rw [strL_size]; omega) hnm (HML.out.below hB')))).mono ?_⟩
          rintro e w4 ⟨ho, hb4⟩
          rcases ho with ⟨_, rfl⟩ | ⟨hno, rfl⟩
          · rw [HON.out]
            have hB4 : Below w.heap.size w w4 := hB'.trans (hb4.mono hB'.size)
            have bO4 : Boxed w4 (w1.heap.size + 1) 39 (.slice (some ⟨w1.heap.size, 0, none⟩) n n) := (hb4.block _ hbO.lt).trans hbO
            have bR4 : Boxed w4 (w.heap.size + 1) 39 (.slice none 0 0) := (hb4.block _ hbR.lt).trans hbR
            have bQ4 : Boxed w4 (w.heap.size + 1 + 1) 4 (.bool false) := (hb4.block _ hbQ.lt).trans hbQ
            have bV4 : Boxed w4 w.heap.size 27 (.slice (some ⟨b1, o1, none⟩) n c) := (hb4.block _ hbV.lt).trans hbV
            have bK4 : Boxed w4 wr.heap.size 3 (.int .i64 (k : Int)) := (hb4.block _ hbK.lt).trans hbK
            have st4 : StrsAt w4 w1.heap.size n (fP N k (numsOf pre)) := HST.out.below hb4 (by have := hbO.lt; omega)
            have HDF4 : Hid (∀ D ∈ Ds, w4.heap[D]? = some (.deferred (some []))) := fun D hD => (hb4.block D (Array.getElem?_eq_some_iff.1 (HDF.out D hD)).1).trans (HDF.out D hD)
            have HK4 : Hid (KeepsOthers W w4 ∧ Keep3 b1 (wr.heap.size + 1) (wr.heap.size + 1 + 1) W w4) := ⟨below_others hb4, Keep3.of hb4 (by omega) (by omega) (by omega)⟩
            have hs4 : wr.heap.size + 3 ≤ w4.heap.size := by have := hb4.size; omega
            clear HST HDF hb4 hbO hbR hbQ hbV hbK
            by_cases h60 : (strL (pth N p)).size ≤ 60
            · rw [decide_eq_true h60]
              have h60' : (pth N p).length ≤ 60 := by rwa [strL_size] at h60
              have cO4 := bO4.cell
              have cP := (st4 p hpn).1
              have fPz := (st4 p hpn).2
              have i2 : (0 : Int) ≤ (p : Int) := by omega
              have i3 : (p : Int) < (n : Int) := by omega
              have HST4 : Hid (StrsAt w4 w1.heap.size n (fP N k (numsOf pre))) := st4
              clear st4
              gi_wp2_with fail
              have hg := grown_set w4 ⟨w1.heap.size, p, none⟩ (.string (strL (pth N p)))
              have hk5 := KeepsOthers.setCell w4 ⟨w1.heap.size, p, none⟩ (.string (strL (pth N p)))
              refine ⟨(HK4.out.1.trans hk5).from _, HK4.out.2.trans ⟨by simp, hg.block _ (by omega) (by simp; omega), hg.block _ (by omega) (by simp; omega), hg.block _ (by omega) (by simp; omega)⟩, ⟨⟨?_, ?_⟩, ⟨by simpa using hs4, bK4.kept hg (by simp; omega), bO4.kept hg (by simp), bR4.kept hg (by simp; omega), bQ4.kept hg (by simp; omega), bV4.kept hg (by simp; omega)⟩, fun D hD => hk5.same D _ (HDF4.out D hD) rfl⟩, hB4.setCell (p := ⟨w1.heap.size, p, none⟩) (by simp; omega) _⟩
              · rw [numsOf_snoc, ← fP_set]
                exact HST4.out.set hpn _
              · intro p' hp'
                rw [numsOf_snoc] at hp'
                rcases List.mem_append.1 hp' with h | h
                · exact HL.out p' h
                · simp at h; subst h; exact h60'
            · rw [decide_eq_false h60]
              have HN : Hid (¬ GoodPaths N n) := fun g => by
                have := g p hpn
                rw [strL_size] at h60
                omega
              have cR := bR4.cell
              have fR := bR4.frozen
              have cQ := bQ4.cell
              have fQ := bQ4.frozen
              have bQ5 : Boxed (w4.setCell ⟨w.heap.size + 1, 0, none⟩ (.slice none 0 0)) (w.heap.size + 1 + 1) 4 (.bool false) := bQ4.other (by omega) _
              have cQ5 := bQ5.cell
              have fQ5 := bQ5.frozen
              have hQ6 := bQ5.set (.bool false)
              have hR6 := (bR4.set (.slice none 0 0)).other (show w.heap.size + 1 ≠ w.heap.size + 1 + 1 by omega) (.bool false)
              have HK6 : Hid (KeepsOthers W _) := (HK4.out.1.trans (KeepsOthers.setCell w4 ⟨w.heap.size + 1, 0, none⟩ (.slice none 0 0))).trans (KeepsOthers.setCell _ ⟨w.heap.size + 1 + 1, 0, none⟩ (.bool false))
              have HDF6 : Hid (∀ D ∈ Ds, ((w4.setCell ⟨w.heap.size + 1, 0, none⟩ (.slice none 0 0)).setCell ⟨w.heap.size + 1 + 1, 0, none⟩ (.bool false)).heap[D]? = some (.deferred (some []))) := fun D hD => ((KeepsOthers.setCell w4 ⟨w.heap.size + 1, 0, none⟩ (.slice none 0 0)).trans (KeepsOthers.setCell _ ⟨w.heap.size + 1 + 1, 0, none⟩ (.bool false))).same D _ (HDF4.out D hD) rfl
              clear st4
              gi_wp2_with fail
              exact ⟨HK6.out.from _, ⟨⟨rfl, HN.out⟩, ⟨hR6, hQ6⟩, HDF6.out⟩, (hB4.setCell (p := ⟨w.heap.size + 1, 0, none⟩) (by simp) _).setCell (p := ⟨w.heap.size + 1 + 1, 0, none⟩) (by simp; omega) _⟩
          · rw [HPL.out] at hno
            simp at hno
        case done =>
          rintro D ys W hD hys ⟨⟨⟨st', hl'⟩, ⟨hsz, hbK, hbO, hbR, hbQ, hbV⟩, hdf⟩, hB'⟩ hK
          have hD' : wr.heap.size + 3 ≤ D := by simpa using hD
          have HN : Hid ((StrsAt W w1.heap.size n (fP N (k + 1) []) ∧ (∀ p, p < n → 0 < p → par N p < k + 1 → (pth N p).length ≤ 60)) ∧ Boxed W (w1.heap.size + 1) 39 (.slice (some ⟨w1.heap.size, 0, none⟩) n n) ∧ (Boxed W (w.heap.size + 1) 39 (.slice none 0 0) ∧ Boxed W (w.heap.size + 1 + 1) 4 (.bool false) ∧ Boxed W w.heap.size 27 (.slice (some ⟨b1, o1, none⟩) n c)) ∧ ((D :: Ds).Nodup ∧ ∀ E ∈ D :: Ds, w.heap.size ≤ E ∧ W.heap[E]? = some (.deferred (some []))) ∧ Below w.heap.size w W) := by
            refine ⟨⟨st'.congr (fP_done HG.out hys), short_done HG.out hys HP.out.1.2 hl'⟩, hbO, ⟨hbR, hbQ, hbV⟩, ⟨?_, ?_⟩, hB'⟩
            · rw [List.nodup_cons]
              exact ⟨fun h => by have := (Array.getElem?_eq_some_iff.1 (hds D h).2).1; omega, hnd⟩
            · intro E hE
              rcases List.mem_cons.1 hE with rfl | hE
              · exact ⟨by omega, hK⟩
              · exact ⟨(hds E hE).1, hdf E hE⟩
          clear st' hl' hbK hbO hbR hbQ hbV hdf hB' hK hds hnd bK bN bI cV' hB0 hBw
          gi_wp2_with fail
          refine ⟨⟨k + 1, .pointer (some ⟨wr.heap.size, 0, none⟩), .bool true, .int .i64 (k : Int), .pointer (some ⟨w.heap.size, 0, none⟩), .slice (some ⟨b1, o1, none⟩) n c, .int .i64 (k : Int), .func (.func 93) #[] #[.pointer (some ⟨wr.heap.size + 1, 0, none⟩), .pointer (some ⟨wr.heap.size + 1 + 1, 0, none⟩)], .int .i64 ((k + 1 : Nat) : Int), D :: Ds, ?_, by omega, by omega, HN.out⟩, ?_⟩
          · rfl
          · simp [intOf]
            omega
        case stop =>
          rintro D c' pre W hD hpre ⟨⟨⟨rfl, hno⟩, ⟨hbR, hbQ⟩, hdf⟩, hB'⟩ hK
          have HN : Hid (¬ (GoodV N n ∧ GoodPaths N n)) := fun h => hno h.2
          have hD' : wr.heap.size + 3 ≤ D := by simpa using hD
          have HDS : Hid ((D :: Ds).Nodup ∧ ∀ E ∈ D :: Ds, w.heap.size ≤ E ∧ W.heap[E]? = some (.deferred (some []))) := by
            refine ⟨?_, ?_⟩
            · rw [List.nodup_cons]
              exact ⟨fun h => by have := (Array.getElem?_eq_some_iff.1 (hds D h).2).1; omega, hnd⟩
            · intro E hE
              rcases List.mem_cons.1 hE with rfl | hE
              · exact ⟨by omega, hK⟩
              · exact ⟨(hds E hE).1, hdf E hE⟩
          clear hdf hK hds hnd bK bN bI cV' hB0 hBw
          gi_wp2_with fail
          refine leaves_all (D :: Ds) W HDS.out.1 (fun E hE => (HDS.out.2 E hE).2) ?_
          intro W' h1 h2 h3 h4 h5
          have kR := (box_left HDS.out.2 h2 hbR).cell
          have kQ := (box_left HDS.out.2 h2 hbQ).cell
          refine ⟨.tuple #[.slice none 0 0, .bool false], ?_, PathsIs.no HN.out (hB'.trans (below_left HDS.out.2 h1 h2 h3 h4 h5))⟩
          simp [results, Tryd.f31, go_sem, kR, kQ]
      · obtain rfl : k = n := by omega
        have hws : w.heap.size ≤ wr.heap.size := hB.size
        have n0 : ¬ (k : Int) < (k : Int) := by omega
        have cO := bO.cell
        have cR := bR.cell
        have fR := bR.frozen
        have cQ := bQ.cell
        have fQ := bQ.frozen
        have bQ5 : Boxed (wr.setCell ⟨w.heap.size + 1, 0, none⟩ (.slice (some ⟨w1.heap.size, 0, none⟩) k k)) (w.heap.size + 1 + 1) 4 (.bool false) := bQ.other (by omega) _
        have cQ5 := bQ5.cell
        have fQ5 := bQ5.frozen
        have hQ6 := bQ5.set (.bool true)
        have hR6 := (bR.set (.slice (some ⟨w1.heap.size, 0, none⟩) k k)).other (show w.heap.size + 1 ≠ w.heap.size + 1 + 1 by omega) (.bool true)
        have g1 := grown_set wr ⟨w.heap.size + 1, 0, none⟩ (.slice (some ⟨w1.heap.size, 0, none⟩) k k)
        have g2 := grown_set (wr.setCell ⟨w.heap.size + 1, 0, none⟩ (.slice (some ⟨w1.heap.size, 0, none⟩) k k)) ⟨w.heap.size + 1 + 1, 0, none⟩ (.bool true)
        have HST : Hid (StrsAt ((wr.setCell ⟨w.heap.size + 1, 0, none⟩ (.slice (some ⟨w1.heap.size, 0, none⟩) k k)).setCell ⟨w.heap.size + 1 + 1, 0, none⟩ (.bool true)) w1.heap.size k (fun p => strL (pth N p))) := by
          refine StrsAt.congr (f := fP N k []) (fun i hi => ?_) (fun p hp => ?_)
          · have e1 := g1.block w1.heap.size (by omega) (by simp; omega)
            have e2 := g2.block w1.heap.size (by have := g1.size; omega) (by simp; omega)
            have e3 := e2.trans e1
            have h1 := (st i hi).1
            have h2 := (st i hi).2
            unfold World.cell? at h1 ⊢
            unfold World.frozen? at h2 ⊢
            dsimp only at h1 h2 ⊢
            rw [e3]
            exact ⟨h1, h2⟩
          · unfold fP
            rw [if_pos]
            by_cases h0 : p = 0
            · exact .inl h0
            · have := par_lt (good_pre HG.out) (by omega) hp
              exact .inr (.inl (by omega))
        have HGP : Hid (GoodPaths N k) := fun p hp => by
          by_cases h0 : p = 0
          · subst h0; rw [pth_zero]; simp
          · have := par_lt (good_pre HG.out) (by omega) hp
            exact hln p hp (by omega) (by omega)
        have HDS : Hid (∀ E ∈ Ds, w.heap.size ≤ E ∧ ((wr.setCell ⟨w.heap.size + 1, 0, none⟩ (.slice (some ⟨w1.heap.size, 0, none⟩) k k)).setCell ⟨w.heap.size + 1 + 1, 0, none⟩ (.bool true)).heap[E]? = some (.deferred (some []))) := fun E hE => ⟨(hds E hE).1, ((KeepsOthers.setCell wr ⟨w.heap.size + 1, 0, none⟩ _).trans (KeepsOthers.setCell _ ⟨w.heap.size + 1 + 1, 0, none⟩ _)).same E _ (hds E hE).2 rfl⟩
        have HB6 : Hid (Below w.heap.size w ((wr.setCell ⟨w.heap.size + 1, 0, none⟩ (.slice (some ⟨w1.heap.size, 0, none⟩) k k)).setCell ⟨w.heap.size + 1 + 1, 0, none⟩ (.bool true))) := (hB.setCell (p := ⟨w.heap.size + 1, 0, none⟩) (by simp) _).setCell (p := ⟨w.heap.size + 1 + 1, 0, none⟩) (by simp; omega) _
        have HS6 : Hid (w1.heap.size < ((wr.setCell ⟨w.heap.size + 1, 0, none⟩ (.slice (some ⟨w1.heap.size, 0, none⟩) k k)).setCell ⟨w.heap.size + 1 + 1, 0, none⟩ (.bool true)).heap.size) := by
          have := g1.size
          have := g2.size
          show _ < _
          omega
        clear hds g1 g2 st hB
        gi_wp2_with fail
        refine leaves_all Ds _ hnd (fun E hE => (HDS.out E hE).2) ?_
        intro W' h1 h2 h3 h4 h5
        have kR := (box_left HDS.out h2 hR6).cell
        have kQ := (box_left HDS.out h2 hQ6).cell
        refine ⟨.tuple #[.slice (some ⟨w1.heap.size, 0, none⟩) k k, .bool true], ?_, _, _, w1.heap.size, k, _, rfl, .inl ⟨rfl, ⟨HG.out, HGP.out⟩, rfl, rfl⟩, by omega, ⟨_, _, rfl, by omega, .inr ⟨rfl, by rw [h1]; exact HS6.out, strs_left HDS.out h2 HST.out⟩⟩, HB6.out.trans (below_left HDS.out h1 h2 h3 h4 h5)⟩
        simp [results, Tryd.f31, go_sem, kR, kQ]

/-- PathsIn, at every value. -/
theorem implPaths_any (b n : Nat) (a : Option Addr) (c : Nat) (N : Nat → Nd) (w : World) (h : OwnAt w b (.slice a n c) n N) (hsm : SmallN n N) (htab : Tab w.heap.size w) (hml : ML w) :
    Calls Tryd.prog 31 #[.agg #[.slice a n c]] w (PathsIs N n w) :=
  (callsIn_wide (n := 6)).1 (implPaths_in b n a c N w h hsm htab hml)

end Go.Proofs.YthgjelbhhdomdaaDoor
