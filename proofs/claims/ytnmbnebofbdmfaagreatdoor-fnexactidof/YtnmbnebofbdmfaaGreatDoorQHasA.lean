/- The part of a tree that a name leads to: the specification's l3At. The parts of a node, one by one: the program's iterator partsOf. The part of a name, and the node that names lead to: the program's partNamed and nodeAt. The node that names lead to: the program's nodeAt. The part of a tree that names lead to. What names lead to: the same by nodes and by trees. No program in this text. A value and a path of which something may be asked. The part of a tree that names lead to: the specification's l3Get. -/
import Derived.Test.YtnmbnebofbdmfaaGreatDoorTreeF0
import Derived.Test.YtnmbnebofbdmfaaGreatDoorQuote
import Derived.Test.YtnmbnebofbdmfaaGreatDoorQPathT0
import Derived.Test.YtnmbnebofbdmfaaGreatDoorQPathS
import Derived.Test.YtnmbnebofbdmfaaGreatDoorTell
import Derived.Test.YtnmbnebofbdmfaaGreatDoorStrs0
import Derived.Maps.AppendAt
import Derived.Test.YtnmbnebofbdmfaaGreatDoorFiveM
import Derived.Test.YtnmbnebofbdmfaaGreatDoorQGoodTr
namespace Go.Proofs.YtnmbnebofbdmfaaGreatDoor
open Go.RowKit
set_option linter.unusedVariables false

/-- Does the name lead to the i-th part? -/
def hitI (k : Int) (nm : List ByteArray) (name : ByteArray) (i : Nat) : Bool := (decide (k = 7) && ((nm.getD i ByteArray.empty).toList == name.toList)) || (decide (k = 6) && ((strL (Lib.decDigits i)).toList == name.toList))
def atI (k : Int) (nm : List ByteArray) (name : ByteArray) (m : Nat) : Option Nat := (List.range m).find? (hitI k nm name)
theorem atI_hit {k : Int} {nm : List ByteArray} {name : ByteArray} {i m : Nat} (hi : i < m) (h : hitI k nm name i = true) (h0 : ∀ j, j < i → hitI k nm name j = false) : atI k nm name m = some i := by
  unfold atI
  obtain ⟨d, rfl⟩ : ∃ d, m = i + (d + 1) := ⟨m - i - 1, by omega⟩
  rw [List.range_add, List.find?_append, List.find?_eq_none.2 (fun x hx => by simp [h0 x (List.mem_range.1 hx)]), List.range_succ_eq_map]
  simp [h]
theorem atI_none {k : Int} {nm : List ByteArray} {name : ByteArray} {m : Nat} (h0 : ∀ j, j < m → hitI k nm name j = false) : atI k nm name m = none := by
  unfold atI
  exact List.find?_eq_none.2 (fun x hx => by simp [h0 x (List.mem_range.1 hx)])
theorem atI_lt {k : Int} {nm : List ByteArray} {name : ByteArray} {m i : Nat} (h : atI k nm name m = some i) : i < m := List.mem_range.1 (List.mem_of_find?_eq_some h)
def atV (o : Option Nat) : Int := match o with
  | some i => (i : Int)
  | none => -1

set_option maxRecDepth 100000 in
set_option maxHeartbeats 4000000 in
theorem l3At_any (k n : Int) (t : ByteArray) (nm : List ByteArray) (ks : List Tr) (v : Value) (name : ByteArray) (w : World) (h : Tree w (.mk k n t nm ks) v) (hnd : k = 7 → nm.length = ks.length) (hc : ks.length ≤ 2 ^ 20) :
    Calls Tryz.prog 25 #[v, .string name] w fun e w' => e = .returned (.int .i64 (atV (atI k nm name ks.length))) ∧ Below w.heap.size w w' := by
  obtain ⟨an, cn, ak, ck, rfl, hnm, hk⟩ := h.open
  have HNM : Hid (NamsAt w (fun _ => True) an nm) := hnm
  have HND : Hid (k = 7 → nm.length = ks.length) := hnd
  clear hnm hk hnd h
  go_enter Tryz.func25, Tryz.ntmps25
  go_wp2_with fail
  go_loopw [9] (fun i wr => ∃ m : Nat, m ≤ ks.length ∧ i = .int .i64 (m : Int) ∧ Hid (∀ j, j < m → hitI k nm name j = false) ∧ Below w.heap.size w wr ∧ w.heap.size < wr.heap.size ∧ wr.cell? ⟨w.heap.size, 0, none⟩ = some (.int .i64 k) ∧ wr.cell? ⟨w.heap.size, 3, none⟩ = some (.slice an nm.length cn)) (fun i _ => ks.length - (intOf i).toNat)
  case atStart => exact ⟨0, Nat.zero_le _, rfl, fun j hj => by omega, by go_grown, by simp, by simp [go_sem], by simp [go_sem]⟩
  case round =>
    obtain ⟨m, hm, rfl, HH, hnx, hzw, u0, u3⟩ := hrel
    by_cases hlt : m < ks.length
    · have j0 : (0 : Int) ≤ (m : Int) := by omega
      have j1 : (m : Int) < (ks.length : Int) := by omega
      by_cases h7 : k = 7
      · have hnl := HND.out h7
        rcases HNM.out with h0 | ⟨gn, rfl, _, hg2, hnc⟩
        · rw [h0] at hnl; simp at hnl; omega
        have hnm2 : wr.cell? ⟨gn, m, none⟩ = some (.string (nm.getD m ByteArray.empty)) := (hnx.cell hg2).trans (hnc m (by omega))
        have j2 : (m : Int) < (nm.length : Int) := by omega
        obtain ⟨nx, hx⟩ : ∃ nx, nx = nm.getD m ByteArray.empty := ⟨_, rfl⟩
        rw [← hx] at hnm2
        have HX : Hid (nx = nm.getD m ByteArray.empty) := hx
        clear hnc hx
        subst h7
        cases heq : (nx.toList == name.toList) with
        | true =>
          have HI : Hid (atI 7 nm name ks.length = some m) := atI_hit hlt (by unfold hitI; rw [← HX.out, heq]; rfl) HH.out
          go_wp2_with fail
          go_ret
          exact ⟨by rw [HI.out]; rfl, hnx⟩
        | false =>
          have HH2 : Hid (∀ j, j < m + 1 → hitI 7 nm name j = false) := fun j hj => by
            by_cases e : j = m
            · subst e; unfold hitI; rw [← HX.out, heq]; rfl
            · exact HH.out j (by omega)
          go_wp2_with fail
          go_roundw
          case rel => exact ⟨m + 1, by omega, by go_num, HH2, hnx, hzw, u0, u3⟩
          case measure => simp [intOf]; omega
      · have e7 : (k == 7) = false := by simpa using h7
        by_cases h6 : k = 6
        · subst h6
          go_wp2_with fail
          refine (l1Num_any _ (m : Int) _ rfl (by omega) (by omega)).mono ?_
          rintro e w1 ⟨rfl, hb1⟩
          have HB : Hid (Below w.heap.size w w1) := hnx.trans (hb1.mono hnx.size)
          have v0 := (hb1.cell (p := ⟨w.heap.size, 0, none⟩) hzw).trans u0
          have v3 := (hb1.cell (p := ⟨w.heap.size, 3, none⟩) hzw).trans u3
          have hz1 : w.heap.size < w1.heap.size := Nat.lt_of_lt_of_le hzw hb1.size
          clear hb1 u0 u3
          rw [show ((m : Int)).toNat = m from rfl]
          cases heq : ((strL (Lib.decDigits m)).toList == name.toList) with
          | true =>
            have HI : Hid (atI 6 nm name ks.length = some m) := atI_hit hlt (by unfold hitI; rw [heq]; simp) HH.out
            go_wp2_with fail
            go_ret
            exact ⟨by rw [HI.out]; rfl, HB.out⟩
          | false =>
            have HH2 : Hid (∀ j, j < m + 1 → hitI 6 nm name j = false) := fun j hj => by
              by_cases e : j = m
              · subst e; unfold hitI; rw [heq]; simp
              · exact HH.out j (by omega)
            go_wp2_with fail
            go_roundw
            case rel => exact ⟨m + 1, by omega, by go_num, HH2, HB.out, hz1, v0, v3⟩
            case measure => simp [intOf]; omega
        · have e6 : (k == 6) = false := by simpa using h6
          have HH2 : Hid (∀ j, j < m + 1 → hitI k nm name j = false) := fun j hj => by unfold hitI; rw [decide_eq_false h7, decide_eq_false h6]; rfl
          go_wp2_with fail
          go_roundw
          case rel => exact ⟨m + 1, by omega, by go_num, HH2, hnx, hzw, u0, u3⟩
          case measure => simp [intOf]; omega
    · obtain rfl : m = ks.length := by omega
      have HI : Hid (atI k nm name ks.length = none) := atI_none HH.out
      go_wp2
      go_ret
      exact ⟨by rw [HI.out]; rfl, hnx⟩

end Go.Proofs.YtnmbnebofbdmfaaGreatDoor
namespace Go.Proofs.YtnmbnebofbdmfaaGreatDoor
open Go.RowKit Go.Shelf
set_option linter.unusedVariables false
attribute [local go_sem] Oper.semAt_some

/-- The name that leads to the part p, the i-th of k. -/
def nmAt (N : Nat → Nd) (k i p : Nat) : ByteArray := if (N k).kind = 6 then strL (Lib.decDigits i) else (N p).name
/-- The parts of k ahead of j, each by its name. -/
def partsTo (N : Nat → Nd) (k j : Nat) : List (ByteArray × Nat) := (kidsTo N k j).zipIdx.map fun x => (nmAt N k x.2 x.1, x.1)
theorem partsTo_hit {N : Nat → Nd} {k j : Nat} (h : k < j ∧ (N j).up = k) : partsTo N k (j + 1) = partsTo N k j ++ [(nmAt N k (kidsTo N k j).length j, j)] := by
  unfold partsTo
  rw [kidsTo, if_pos h, List.zipIdx_append, List.map_append]
  simp
theorem partsTo_miss {N : Nat → Nd} {k j : Nat} (h : ¬ (k < j ∧ (N j).up = k)) : partsTo N k (j + 1) = partsTo N k j := by
  unfold partsTo
  rw [kidsTo, if_neg h]
theorem partsTo_len (N : Nat → Nd) (k j : Nat) : (partsTo N k j).length = (kidsTo N k j).length := by simp [partsTo]
theorem partsTo_prefix (N : Nat → Nd) (k j : Nat) : ∀ d, partsTo N k j <+: partsTo N k (j + d) := by
  intro d
  induction d with
  | zero => exact List.prefix_rfl
  | succ d ih =>
    by_cases h : k < j + d ∧ (N (j + d)).up = k
    · rw [← Nat.add_assoc, partsTo_hit h]
      exact ih.trans (List.prefix_append _ _)
    · rw [← Nat.add_assoc, partsTo_miss h]
      exact ih

/-- What the iterator hands on: a name, and a part's number. -/
def encSP (x : ByteArray × Nat) : Array Value := #[.string x.1, .int .i64 (x.2 : Int)]

/-- Three blocks are as they were. -/
structure Keep3 (b1 b2 b3 : Nat) (A C : World) : Prop where
  size : A.heap.size ≤ C.heap.size
  one : C.heap[b1]? = A.heap[b1]?
  two : C.heap[b2]? = A.heap[b2]?
  three : C.heap[b3]? = A.heap[b3]?
theorem Keep3.refl (b1 b2 b3 : Nat) (A : World) : Keep3 b1 b2 b3 A A := ⟨Nat.le_refl _, rfl, rfl, rfl⟩
theorem Keep3.trans {b1 b2 b3 : Nat} {A C D : World} (h : Keep3 b1 b2 b3 A C) (k : Keep3 b1 b2 b3 C D) : Keep3 b1 b2 b3 A D :=
  ⟨Nat.le_trans h.size k.size, k.one.trans h.one, k.two.trans h.two, k.three.trans h.three⟩
theorem Keep3.of {b1 b2 b3 B : Nat} {A C : World} (h : Below B A C) (h1 : b1 < B) (h2 : b2 < B) (h3 : b3 < B) : Keep3 b1 b2 b3 A C := ⟨h.size, h.block _ h1, h.block _ h2, h.block _ h3⟩
theorem NodesAt.keep3 {A C : World} {b off n B1 B2 : Nat} {N : Nat → Nd} (h : NodesAt A b off n N) (k : Keep3 b B1 B2 A C) : NodesAt C b off n N := fun i hi => by
  have e : ∀ o, C.cell? ⟨b, o, none⟩ = A.cell? ⟨b, o, none⟩ := fun o => World.cell?_of_block (w := A) k.one
  obtain ⟨h0, h1, h2, h3, h4⟩ := h i hi
  exact ⟨(e _).trans h0, (e _).trans h1, (e _).trans h2, (e _).trans h3, (e _).trans h4⟩

set_option maxRecDepth 100000 in
set_option maxHeartbeats 4000000 in
theorem partsOf1_in (n l B1 B2 b off c len k : Nat) (N : Nat → Nd) (hn : 1 ≤ n) (hlen : len ≤ 80) (hk : k < len) (hup : ∀ i, i < len → (N i).up = (k : Int) → k < i) (Kp : World → World → Prop) (hKp : ∀ A C, Kp A C → Keep3 b B1 B2 A C)
    (J Jx : List (ByteArray × Nat) → World → Prop)
    (hY : ∀ pre x W1, J pre W1 → pre.length < 80 → pre ++ [x] <+: partsTo N k len → YieldAt Fence.wide (n - 1) Tryz.prog l (encSP x) W1 fun e W' =>
      (e = .returned (.bool true) ∧ J (pre ++ [x]) W' ∧ Kp W1 W') ∨ (e = .returned (.bool false) ∧ Jx (pre ++ [x]) W'))
    (W : World) (hJ : AbidesFrom W.heap.size J) (h1 : W.cell? ⟨B1, 0, none⟩ = some (.slice (some ⟨b, off, none⟩) len c)) (h2 : W.cell? ⟨B2, 0, none⟩ = some (.int .i64 (k : Int))) (hat : NodesAt W b off len N) (h0 : J [] W) :
    CallsIn Fence.wide n Tryz.prog 69 #[.func (.yield l) #[] #[], .pointer (some ⟨B1, 0, none⟩), .pointer (some ⟨B2, 0, none⟩)] W fun e W' => (∃ v, e = .returned v) ∧
      ((∃ ys, ys = partsTo N k len ∧ J ys W') ∨ (∃ pre, pre <+: partsTo N k len ∧ Jx pre W')) := by
  have HAT : Hid (NodesAt W b off len N) := hat
  have HUP : Hid (∀ i, i < len → (N i).up = (k : Int) → k < i) := hup
  have q1 := World.block_lt_of_cell? _ _ h1
  have q2 := World.block_lt_of_cell? _ _ h2
  have q3 : b < W.heap.size := World.block_lt_of_cell? _ _ (hat 0 (by omega)).1
  dsimp only at q1 q2
  clear hat hup
  refine callsIn_of_wp Tryz.func69 rfl trivial ?_ rfl
  simp only [Tryz.ntmps69, List.size_toArray, List.length_cons, List.length_nil, Nat.reduceAdd, Nat.reduceSub, Array.replicate_succ, Array.replicate_zero, List.push_toArray, List.append_toArray, List.nil_append, List.cons_append]
  gi_wp2_with fail
  gi_loopw [4, 10] (fun av iv wr => ∃ j : Nat, j ≤ len ∧ iv = .int .i64 (j : Int) ∧ av = .int .i64 ((kidsTo N k j).length : Int) ∧ Hid (J (partsTo N k j) wr ∧ Keep3 b B1 B2 W wr)) (fun _ iv _ => len - (intOf iv).toNat)
  case atStart => exact ⟨0, Nat.zero_le _, rfl, rfl, h0, Keep3.refl _ _ _ _⟩
  case round =>
    obtain ⟨j, hj, rfl, rfl, HR⟩ := hrel
    by_cases hlt : j < len
    · have hz := HR.out.2.size
      obtain ⟨a0, a1, a2, a3, a4⟩ := HAT.out.keep3 HR.out.2 j hlt
      have c1 : wr.cell? ⟨B1, 0, none⟩ = some (.slice (some ⟨b, off, none⟩) len c) := (World.cell?_of_block (w := W) HR.out.2.two).trans h1
      have c2 : wr.cell? ⟨B2, 0, none⟩ = some (.int .i64 (k : Int)) := (World.cell?_of_block (w := W) HR.out.2.three).trans h2
      have ck := (HAT.out.keep3 HR.out.2 k hk).1
      have i0 : (0 : Int) ≤ (j : Int) := by omega
      have i1 : (j : Int) < (len : Int) := by omega
      have i2 : (0 : Int) ≤ (k : Int) := by omega
      have i3 : (k : Int) < (len : Int) := by omega
      have b1 : B1 < wr.heap.size := by omega
      have b2 : B2 < wr.heap.size := by omega
      have b3 : b < wr.heap.size := by omega
      obtain ⟨W2, hW2⟩ : ∃ W2, W2 = wr.alloc (Obj.cells #[Value.int .i64 (N j).kind, .int .i64 (N j).num, .string (N j).text, .string (N j).name, .int .i64 (N j).up] 49) := ⟨_, rfl⟩
      have hb2 : Below wr.heap.size wr W2 := by rw [hW2]; exact (Below.refl _ _).alloc (Nat.le_refl _) _
      have HJ2 : Hid (J (partsTo N k j) W2) := abide_on hJ HR.out.1 hb2
      have HK2 : Hid (Keep3 b B1 B2 wr W2) := Keep3.of hb2 b3 b1 b2
      clear hb2
      by_cases hu : (N j).up = (k : Int)
      · have hub : ((N j).up != (k : Int)) = false := by simp [hu]
        have hkj : k < j := HUP.out j hlt hu
        have HPH : Hid (partsTo N k (j + 1) = partsTo N k j ++ [(nmAt N k (kidsTo N k j).length j, j)]) := partsTo_hit ⟨hkj, hu⟩
        have HKL : Hid ((kidsTo N k (j + 1)).length = (kidsTo N k j).length + 1) := by show _ = _; rw [kidsTo, if_pos ⟨hkj, hu⟩, List.length_append]; rfl
        have HPX : Hid (partsTo N k j ++ [(nmAt N k (kidsTo N k j).length j, j)] <+: partsTo N k len) := by
          have := partsTo_prefix N k (j + 1) (len - (j + 1))
          rw [HPH.out, show j + 1 + (len - (j + 1)) = len by omega] at this
          exact this
        have hkl : (kidsTo N k j).length ≤ j := kids_len N k j
        obtain ⟨fn, tmps, assign, body, hy, hR⟩ := hY (partsTo N k j) (nmAt N k (kidsTo N k j).length j, j) W2 HJ2.out (by rw [partsTo_len]; omega) HPX.out
        dsimp only [encSP] at hy
        rw [hW2] at hy hR
        by_cases h6 : (N k).kind = 6
        · have h6b : ((N k).kind == (6 : Int)) = true := by simp [h6]
          rw [show nmAt N k (kidsTo N k j).length j = ⟨(Lib.decDigits (kidsTo N k j).length).toArray⟩ by unfold nmAt; rw [if_pos h6]; rfl] at hy
          rw [hW2] at HK2
          clear hW2 HJ2 hu h6
          gi_wp2_with fail
          refine ⟨trivial, (callsIn_wide.2 (Tryz.strconv_Itoa_small (kidsTo N k j).length (by omega) _)).mono ?_⟩
          rintro e w0 ⟨rfl, hw0⟩
          have hw := hw0.symm
          subst hw
          clear hw0
          gi_wp2
          refine hR.mono ?_
          rintro e w3 (⟨rfl, hJ3, hk3⟩ | ⟨rfl, hJx3⟩)
          · have HR3 : Hid (J (partsTo N k (j + 1)) w3 ∧ Keep3 b B1 B2 W w3) := ⟨by rw [HPH.out]; exact hJ3, (HR.out.2.trans HK2.out).trans (hKp _ _ hk3)⟩
            clear hJ3 hk3
            gi_wp2
            go_roundw
            case rel => exact ⟨j + 1, by omega, by simp, by rw [HKL.out]; simp, HR3⟩
            case measure => simp [intOf]; omega
          · gi_wp2
            refine bodyPost_ret (results_none rfl _ _ _) rfl ?_
            exact ⟨⟨_, rfl⟩, .inr ⟨_, HPX.out, hJx3⟩⟩
        · have h6b : ((N k).kind == (6 : Int)) = false := by simpa using h6
          rw [show nmAt N k (kidsTo N k j).length j = (N j).name by unfold nmAt; rw [if_neg h6]] at hy
          rw [hW2] at HK2
          clear hW2 HJ2 hu h6
          gi_wp2
          refine hR.mono ?_
          rintro e w3 (⟨rfl, hJ3, hk3⟩ | ⟨rfl, hJx3⟩)
          · have HR3 : Hid (J (partsTo N k (j + 1)) w3 ∧ Keep3 b B1 B2 W w3) := ⟨by rw [HPH.out]; exact hJ3, (HR.out.2.trans HK2.out).trans (hKp _ _ hk3)⟩
            clear hJ3 hk3
            gi_wp2
            go_roundw
            case rel => exact ⟨j + 1, by omega, by simp, by rw [HKL.out]; simp, HR3⟩
            case measure => simp [intOf]; omega
          · gi_wp2
            refine bodyPost_ret (results_none rfl _ _ _) rfl ?_
            exact ⟨⟨_, rfl⟩, .inr ⟨_, HPX.out, hJx3⟩⟩
      · have hub : ((N j).up != (k : Int)) = true := by simpa using hu
        have HP : Hid (partsTo N k (j + 1) = partsTo N k j ∧ (kidsTo N k (j + 1)).length = (kidsTo N k j).length) := ⟨partsTo_miss (fun h => hu h.2), by rw [kidsTo, if_neg (fun h => hu h.2)]⟩
        have HR2 : Hid (J (partsTo N k (j + 1)) W2 ∧ Keep3 b B1 B2 W W2) := ⟨by rw [HP.out.1]; exact HJ2.out, HR.out.2.trans HK2.out⟩
        rw [hW2] at HR2
        clear hW2 HJ2 HK2 hu
        gi_wp2
        go_roundw
        case rel => exact ⟨j + 1, by omega, by simp, by rw [HP.out.2], HR2⟩
        case measure => simp [intOf]; omega
    · obtain rfl : j = len := by omega
      gi_wp2
      go_end0
      exact ⟨⟨_, rfl⟩, .inl ⟨_, rfl, HR.out.1⟩⟩

set_option maxHeartbeats 1000000 in
/-- partsOf: both are boxed; the function value captures the boxes. -/
theorem partsOf_in (n : Nat) (a : Option Addr) (len c k : Nat) (w : World) :
    CallsIn Fence.wide n Tryz.prog 58 #[.slice a len c, .int .i64 (k : Int)] w fun e w' => e = .returned (.func (.func 69) #[] #[.pointer (some ⟨w.heap.size, 0, none⟩), .pointer (some ⟨w.heap.size + 1, 0, none⟩)]) ∧ w' = (w.alloc (.cells #[.slice a len c] 26)).alloc (.cells #[.int .i64 (k : Int)] 3) := by
  refine callsIn_of_wp Tryz.func58 rfl trivial ?_ rfl
  simp only [Tryz.ntmps58, List.size_toArray, List.length_cons, List.length_nil, Nat.reduceAdd, Nat.reduceSub, Array.replicate_succ, Array.replicate_zero, List.push_toArray, List.append_toArray, List.nil_append, List.cons_append]
  gi_wp2
  go_ret
  exact ⟨rfl, rfl⟩

/-- THE ITERATOR's CONTRACT. -/
theorem parts_stops (n B1 B2 b off c len k : Nat) (N : Nat → Nd) (hn : 1 ≤ n) (hlen : len ≤ 80) (hk : k < len) (hup : ∀ i, i < len → (N i).up = (k : Int) → k < i) (Kp : World → World → Prop) (hKp : ∀ A C, Kp A C → Keep3 b B1 B2 A C) (w : World)
    (hB1 : B1 < w.heap.size) (hB2 : B2 < w.heap.size) (hb : b < w.heap.size) (h1 : w.cell? ⟨B1, 0, none⟩ = some (.slice (some ⟨b, off, none⟩) len c)) (h2 : w.cell? ⟨B2, 0, none⟩ = some (.int .i64 (k : Int))) (hat : NodesAt w b off len N) :
    SeqStopsK Fence.wide n Tryz.prog 69 #[.pointer (some ⟨B1, 0, none⟩), .pointer (some ⟨B2, 0, none⟩)] encSP Kp (fun ys => ys = partsTo N k len) (fun pre => pre <+: partsTo N k len) 80 w := fun l J Jx W hW hJ _ hY h0 =>
  partsOf1_in n l B1 B2 b off c len k N hn hlen hk hup Kp hKp J Jx (fun pre x W1 h1 h2 _ => hY pre x W1 h1 h2) W hJ ((hW.cell (p := ⟨B1, 0, none⟩) hB1).trans h1) ((hW.cell (p := ⟨B2, 0, none⟩) hB2).trans h2) (hat.below hW hb) h0

/-- The parts, each with what is known of it. -/
abbrev PartOf (N : Nat → Nd) (k len : Nat) := { x : ByteArray × Nat // x ∈ partsTo N k len }
def valsOf {N : Nat → Nd} {k len : Nat} (l : List (PartOf N k len)) : List (ByteArray × Nat) := l.map (·.1)
theorem valsOf_snoc {N : Nat → Nd} {k len : Nat} (l : List (PartOf N k len)) (x : PartOf N k len) : valsOf (l ++ [x]) = valsOf l ++ [x.1] := by simp [valsOf]
theorem valsOf_inj {N : Nat → Nd} {k len : Nat} : ∀ {a b : List (PartOf N k len)}, valsOf a = valsOf b → a = b := by
  intro a
  induction a with
  | nil => intro b h; cases b with
    | nil => rfl
    | cons y b => simp [valsOf] at h
  | cons x a ih => intro b h; cases b with
    | nil => simp [valsOf] at h
    | cons y b =>
      simp only [valsOf, List.map_cons, List.cons.injEq] at h
      rw [Subtype.ext h.1, ih h.2]

/-- THE ITERATOR's CONTRACT, for a body that must know of what it is handed. -/
theorem parts_stopsS (n B1 B2 b off c len k : Nat) (N : Nat → Nd) (hn : 1 ≤ n) (hlen : len ≤ 80) (hk : k < len) (hup : ∀ i, i < len → (N i).up = (k : Int) → k < i) (Kp : World → World → Prop) (hKp : ∀ A C, Kp A C → Keep3 b B1 B2 A C) (w : World)
    (hB1 : B1 < w.heap.size) (hB2 : B2 < w.heap.size) (hb : b < w.heap.size) (h1 : w.cell? ⟨B1, 0, none⟩ = some (.slice (some ⟨b, off, none⟩) len c)) (h2 : w.cell? ⟨B2, 0, none⟩ = some (.int .i64 (k : Int))) (hat : NodesAt w b off len N) :
    SeqStopsK Fence.wide n Tryz.prog 69 #[.pointer (some ⟨B1, 0, none⟩), .pointer (some ⟨B2, 0, none⟩)] (fun x : PartOf N k len => encSP x.1) Kp (fun ys => valsOf ys = partsTo N k len) (fun pre => valsOf pre <+: partsTo N k len) 80 w := fun l J Jx W hW hJ hJx hY h0 => by
  refine (partsOf1_in n l B1 B2 b off c len k N hn hlen hk hup Kp hKp (fun pre W => ∃ pre', valsOf pre' = pre ∧ J pre' W) (fun pre W => ∃ pre', valsOf pre' = pre ∧ Jx pre' W) ?_ W ?_ ((hW.cell (p := ⟨B1, 0, none⟩) hB1).trans h1) ((hW.cell (p := ⟨B2, 0, none⟩) hB2).trans h2) (hat.below hW hb) ⟨[], rfl, h0⟩).mono ?_
  · rintro pre x W1 ⟨pre', rfl, hp⟩ hl hpx
    have hx : x ∈ partsTo N k len := hpx.subset (by simp)
    obtain ⟨fn, tmps, assign, body, hy, hR⟩ := hY pre' ⟨x, hx⟩ W1 hp (by simpa [valsOf] using hl)
    refine ⟨fn, tmps, assign, body, hy, hR.mono ?_⟩
    rintro e W' (⟨rfl, hj, hk'⟩ | ⟨rfl, hj⟩)
    · exact .inl ⟨rfl, ⟨pre' ++ [⟨x, hx⟩], valsOf_snoc _ _, hj⟩, hk'⟩
    · exact .inr ⟨rfl, ⟨pre' ++ [⟨x, hx⟩], valsOf_snoc _ _, hj⟩⟩
  · rintro s A C row ⟨s', rfl, hs⟩ hg hr
    exact ⟨s', rfl, hJ s' A C row hs hg hr⟩
  · rintro e W' ⟨he, ⟨ys, rfl, ys', hv, hj⟩ | ⟨pre, hp, pre', rfl, hj⟩⟩
    · exact ⟨he, .inl ⟨ys', hv, hj⟩⟩
    · exact ⟨he, .inr ⟨pre', hp, hj⟩⟩

end Go.Proofs.YtnmbnebofbdmfaaGreatDoor
namespace Go.Proofs.YtnmbnebofbdmfaaGreatDoor
open Go.RowKit Go.Shelf
set_option linter.unusedVariables false
attribute [local go_sem] Oper.semAt_some

/-- The number of the first of that name. -/
def findP (l : List (ByteArray × Nat)) (name : ByteArray) : Option Nat := (l.find? fun x => x.1.toList == name.toList).map (·.2)
def PartIs (l : List (ByteArray × Nat)) (name : ByteArray) (w : World) (e : Ending) (w' : World) : Prop :=
  e = .returned (.tuple #[.int .i64 (((findP l name).getD 0 : Nat) : Int), .bool (findP l name).isSome]) ∧ Below w.heap.size w w'

def noneOf (name : ByteArray) (pre : List (ByteArray × Nat)) : Prop := ∀ x ∈ pre, (x.1.toList == name.toList) = false
def hitOf (name : ByteArray) (pre : List (ByteArray × Nat)) : Prop := ∃ pre0 x, pre = pre0 ++ [x] ∧ noneOf name pre0 ∧ (x.1.toList == name.toList) = true
def lastN (pre : List (ByteArray × Nat)) : Nat := (pre.getLast?.map (·.2)).getD 0
theorem find_none {name : ByteArray} {l : List (ByteArray × Nat)} (h : noneOf name l) : findP l name = none := by
  unfold findP
  rw [List.find?_eq_none.2 (fun x hx => by simp [h x hx])]
  rfl
theorem find_hit {name : ByteArray} {pre l : List (ByteArray × Nat)} (h : hitOf name pre) (hp : pre <+: l) : findP l name = some (lastN pre) := by
  obtain ⟨pre0, x, rfl, h0, hx⟩ := h
  obtain ⟨t, rfl⟩ := hp
  unfold findP lastN
  rw [List.append_assoc, List.find?_append, List.find?_eq_none.2 (fun y hy => by simp [h0 y hy])]
  simp [hx]

theorem keep3_b {w : World} {b1 b2 b3 : Nat} (h1 : b1 < w.heap.size) (h2 : b2 < w.heap.size) (h3 : b3 < w.heap.size) : ∀ (W : World) (l : Nat) (o o' : Obj), w.heap.size ≤ l → W.heap[l]? = some o → o.isCells = false → o.isWalk = false → Keep3 b1 b2 b3 W (W.putObj l o') := by
  intro W l o o' hl ho _ _
  have hlt : l < W.heap.size := (Array.getElem?_eq_some_iff.1 ho).1
  have hg := grownBy_putObj' W l o'
  exact ⟨hg.size, hg.block _ (by omega) (by simp; omega), hg.block _ (by omega) (by simp; omega), hg.block _ (by omega) (by simp; omega)⟩

set_option maxRecDepth 100000 in
set_option maxHeartbeats 4000000 in
theorem partNamed_in (b off c len k : Nat) (N : Nat → Nd) (name : ByteArray) (w : World) (hlen : len ≤ 80) (hk : k < len) (hup : ∀ i, i < len → (N i).up = (k : Int) → k < i) (hb : b < w.heap.size) (hat : NodesAt w b off len N) :
    CallsIn Fence.wide 5 Tryz.prog 48 #[.slice (some ⟨b, off, none⟩) len c, .int .i64 (k : Int), .string name] w (PartIs (partsTo N k len) name w) := by
  refine callsIn_of_wp_marks Tryz.func48 rfl trivial ?_ rfl
  simp only [Tryz.ntmps48, List.size_toArray, List.length_cons, List.length_nil, Nat.reduceAdd, Nat.reduceSub, Array.replicate_succ, Array.replicate_zero, List.push_toArray, List.append_toArray, List.nil_append, List.cons_append]
  gi_wp2_with fail
  refine ⟨trivial, (partsOf_in _ _ _ _ _ _).mono ?_⟩
  rintro e w' ⟨rfl, rfl⟩
  have bS := Boxed.new w 9 (.string name)
  have bR := Boxed.new (w.alloc (.cells #[.string name] 9)) 3 (.int .i64 0)
  have bQ := Boxed.new ((w.alloc (.cells #[.string name] 9)).alloc (.cells #[.int .i64 0] 3)) 4 (.bool false)
  have bN := Boxed.new (((w.alloc (.cells #[.string name] 9)).alloc (.cells #[.int .i64 0] 3)).alloc (.cells #[.bool false] 4)) 26 (.slice (some ⟨b, off, none⟩) len c)
  have bK := Boxed.new ((((w.alloc (.cells #[.string name] 9)).alloc (.cells #[.int .i64 0] 3)).alloc (.cells #[.bool false] 4)).alloc (.cells #[.slice (some ⟨b, off, none⟩) len c] 26)) 3 (.int .i64 (k : Int))
  simp only [World.size_alloc] at bR bQ bN bK
  have hB0 : Below w.heap.size w (((((w.alloc (.cells #[.string name] 9)).alloc (.cells #[.int .i64 0] 3)).alloc (.cells #[.bool false] 4)).alloc (.cells #[.slice (some ⟨b, off, none⟩) len c] 26)).alloc (.cells #[.int .i64 (k : Int)] 3)) := (((((Below.refl _ w).alloc (Nat.le_refl _) _).alloc (by simp) _).alloc (by simp; omega) _).alloc (by simp; omega) _).alloc (by simp; omega) _
  gi_wp2_with fail
  refine wpIn_rangeFunc_ownG rfl (by decide) (gf := 69) (lb := #[.pointer (some ⟨w.heap.size + 1 + 1 + 1, 0, none⟩), .pointer (some ⟨w.heap.size + 1 + 1 + 1 + 1, 0, none⟩)]) rfl trivial (enters_of Tryz.func69 (by kernel_rfl) rfl)
    (parts_stops 4 (w.heap.size + 1 + 1 + 1) (w.heap.size + 1 + 1 + 1 + 1) b off c len k N (by decide) hlen hk hup (Keep3 b (w.heap.size + 1 + 1 + 1) (w.heap.size + 1 + 1 + 1 + 1)) (fun _ _ h => h) _ (by simp) (by simp) (by simp; omega) (bN.alloc _).cell bK.cell (hat.below hB0 hb)) (fun h k => h.trans k) (keep3_b (by simp; omega) (by simp) (by simp)) (Below.refl _ _) (fun _ => rfl)
    (fun pre W => (noneOf name pre ∧ (Boxed W w.heap.size 9 (.string name) ∧ (Boxed W (w.heap.size + 1) 3 (.int .i64 0) ∧ Boxed W (w.heap.size + 1 + 1) 4 (.bool false)))) ∧ Below w.heap.size w W)
    (fun c pre W => ((c = .ret ∧ hitOf name pre) ∧ (Boxed W (w.heap.size + 1) 3 (.int .i64 (lastN pre : Nat)) ∧ Boxed W (w.heap.size + 1 + 1) 4 (.bool true))) ∧ Below w.heap.size w W)
    (OwnFrom.and (OwnFrom.and (ownFrom_pure _ _) (OwnFrom.and (Own.from (boxed_own _ _ _) _) (OwnFrom.and (Own.from (boxed_own _ _ _) _) (Own.from (boxed_own _ _ _) _)))) (ownFrom_below (Nat.le_refl _) (by simp; omega)))
    (fun c => OwnFrom.and (OwnFrom.and (ownFrom_pure _ _) (OwnFrom.and (Own.from (boxed_own _ _ (fun pre => .int .i64 (lastN pre : Nat))) _) (Own.from (boxed_own _ _ _) _))) (ownFrom_below (Nat.le_refl _) (by simp; omega)))
    ⟨⟨fun x hx => by simp at hx, (((bS.alloc _).alloc _).alloc _).alloc _, ((bR.alloc _).alloc _).alloc _, (bQ.alloc _).alloc _⟩, hB0⟩
    (fun x => { tmps := #[.slice (some ⟨b, off, none⟩) len c, .int .i64 (k : Int), .string name, undef, undef, .pointer (some ⟨w.heap.size, 0, none⟩), .pointer (some ⟨w.heap.size + 1, 0, none⟩), .pointer (some ⟨w.heap.size + 1 + 1, 0, none⟩), .string x.1, .int .i64 (x.2 : Int), .slice (some ⟨b, off, none⟩) len c, .int .i64 (k : Int), .func (.func 69) #[] #[.pointer (some ⟨w.heap.size + 1 + 1 + 1, 0, none⟩), .pointer (some ⟨w.heap.size + 1 + 1 + 1 + 1, 0, none⟩)], .string x.1, .int .i64 (x.2 : Int), undef, undef, undef, undef], defers := [] }) ?assign ?body ?done ?stop
  case assign =>
    intro l x W K hK
    dsimp only [encSP]
    gi_wp2
    exact hK
  case body =>
    rintro l pre ⟨nm, p⟩ W ⟨⟨hno, hbS, hbR, hbQ⟩, hB⟩ hlt
    have cS := hbS.cell
    cases heq : (nm.toList == name.toList) with
    | true =>
      have cR := hbR.cell
      have fR := hbR.frozen
      have hQ1 : Boxed (W.setCell ⟨w.heap.size + 1, 0, none⟩ (.int .i64 (p : Int))) (w.heap.size + 1 + 1) 4 (.bool false) := hbQ.other (by omega) _
      have cQ1 := hQ1.cell
      have fQ1 := hQ1.frozen
      have hQ2 := hQ1.set (.bool true)
      have hR2 := (hbR.set (.int .i64 (p : Int))).other (show w.heap.size + 1 ≠ w.heap.size + 1 + 1 by omega) (.bool true)
      gi_wp2
      exact ⟨((KeepsOthers.setCell _ _ _).trans (KeepsOthers.setCell _ _ _)).from _, ⟨⟨rfl, pre, (nm, p), rfl, hno, heq⟩, by simpa [lastN] using hR2, hQ2⟩, (hB.setCell (p := ⟨w.heap.size + 1, 0, none⟩) (by simp) _).setCell (p := ⟨w.heap.size + 1 + 1, 0, none⟩) (by simp; omega) _⟩
    | false =>
      gi_wp2
      exact ⟨KeepsFrom.refl _ _, Keep3.refl _ _ _ _, ⟨fun x hx => by rcases List.mem_append.1 hx with hx | hx; exact hno x hx; simp at hx; subst hx; exact heq, hbS, hbR, hbQ⟩, hB⟩
  case done =>
    rintro D ys W hD rfl ⟨⟨hno, hbS, hbR, hbQ⟩, hB⟩ hK
    have HF : Hid (findP (partsTo N k len) name = none) := find_none hno
    have cR := hbR.cell
    have fR := hbR.frozen
    have hQ1 : Boxed (W.setCell ⟨w.heap.size + 1, 0, none⟩ (.int .i64 0)) (w.heap.size + 1 + 1) 4 (.bool false) := hbQ.other (by omega) _
    have cQ1 := hQ1.cell
    have fQ1 := hQ1.frozen
    have hQ2 := hQ1.set (.bool false)
    have hR2 := (hbR.set (.int .i64 0)).other (show w.heap.size + 1 ≠ w.heap.size + 1 + 1 by omega) (.bool false)
    have hK' := ((KeepsOthers.setCell W ⟨w.heap.size + 1, 0, none⟩ (.int .i64 0)).trans (KeepsOthers.setCell _ ⟨w.heap.size + 1 + 1, 0, none⟩ (.bool false))).same D _ hK rfl
    have hB2 := (hB.setCell (p := ⟨w.heap.size + 1, 0, none⟩) (by simp) (.int .i64 0)).setCell (p := ⟨w.heap.size + 1 + 1, 0, none⟩) (by simp; omega) (.bool false)
    gi_wp2
    refine ⟨by simp, .inl ⟨_, _, rfl, run_takeDeferred hK', ?_⟩⟩
    have kR := cell_kept hR2.cell (grownBy_putObj' _ D (.deferred none)) (fun r e => by cases e; exact ⟨_, hK', rfl⟩)
    have kQ := cell_kept hQ2.cell (grownBy_putObj' _ D (.deferred none)) (fun r e => by cases e; exact ⟨_, hK', rfl⟩)
    refine ⟨.tuple #[.int .i64 0, .bool false], ?_, by rw [HF.out]; rfl, hB2.trans (belowK_b (w := w) (Nat.le_refl _) _ D _ _ (by simp at hD; omega) hK' rfl rfl)⟩
    simp [results, Tryz.f48, go_sem, kR, kQ]
  case stop =>
    rintro D c' pre W hD hpre ⟨⟨⟨rfl, hhit⟩, hbR, hbQ⟩, hB⟩ hK
    have HF : Hid (findP (partsTo N k len) name = some (lastN pre)) := find_hit hhit hpre
    gi_wp2
    refine ⟨by simp, .inl ⟨_, _, rfl, run_takeDeferred hK, ?_⟩⟩
    have kR := cell_kept hbR.cell (grownBy_putObj' _ D (.deferred none)) (fun r e => by cases e; exact ⟨_, hK, rfl⟩)
    have kQ := cell_kept hbQ.cell (grownBy_putObj' _ D (.deferred none)) (fun r e => by cases e; exact ⟨_, hK, rfl⟩)
    refine ⟨.tuple #[.int .i64 (lastN pre : Nat), .bool true], ?_, by rw [HF.out]; rfl, hB.trans (belowK_b (w := w) (Nat.le_refl _) _ D _ _ (by simp at hD; omega) hK rfl rfl)⟩
    simp [results, Tryz.f48, go_sem, kR, kQ]

end Go.Proofs.YtnmbnebofbdmfaaGreatDoor
namespace Go.Proofs.YtnmbnebofbdmfaaGreatDoor
open Go.RowKit
set_option linter.unusedVariables false

/-- The node that names lead to, from k on. -/
def goN (N : Nat → Nd) (len : Nat) : Nat → List ByteArray → Option Nat
  | k, [] => some k
  | k, nm :: r => (findP (partsTo N k len) nm).bind fun p => goN N len p r

theorem parts_mem {N : Nat → Nd} {k j : Nat} {x : ByteArray × Nat} (h : x ∈ partsTo N k j) : x.2 ∈ kidsTo N k j := by
  unfold partsTo at h
  obtain ⟨y, hy, rfl⟩ := List.mem_map.1 h
  exact (List.mem_zipIdx' hy).2 ▸ List.getElem_mem _
theorem findP_kid {N : Nat → Nd} {k len p : Nat} {nm : ByteArray} (h : findP (partsTo N k len) nm = some p) : p ∈ kidsTo N k len := by
  unfold findP at h
  obtain ⟨x, hx, rfl⟩ := Option.map_eq_some_iff.1 h
  exact parts_mem (List.mem_of_find?_eq_some hx)

theorem lst_drop (f : Nat → ByteArray) {m i : Nat} (h : i < m) : (lst f m).drop i = f i :: (lst f m).drop (i + 1) := by
  rw [List.drop_eq_getElem_cons (by rw [lst_length]; exact h)]
  congr 1
  simp [lst]

set_option maxRecDepth 100000 in
set_option maxHeartbeats 2000000 in
theorem nodeAt_any (b off c len : Nat) (N : Nat → Nd) (a : Option Addr) (ca m : Nat) (f : Nat → ByteArray) (w : World) (hlen : len ≤ 80) (h0 : 0 < len) (hpre : ∀ i, i < len → (N i).up < (i : Int)) (hb : b < w.heap.size) (hat : NodesAt w b off len N) (hm : m ≤ 2 ^ 20) (ha : ArgS w a m f) :
    Calls Tryz.prog 32 #[.slice (some ⟨b, off, none⟩) len c, .slice a m ca] w fun e w' => e = .returned (.tuple #[.int .i64 (((goN N len 0 (lst f m)).getD 0 : Nat) : Int), .bool (goN N len 0 (lst f m)).isSome]) ∧ Below w.heap.size w w' := by
  have HAT : Hid (NodesAt w b off len N) := hat
  have HPR : Hid (∀ i, i < len → (N i).up < (i : Int)) := hpre
  have HA : Hid (ArgS w a m f) := ha
  clear hat hpre ha
  go_enter Tryz.func32, Tryz.ntmps32
  go_wp2_with fail
  go_loopw [6, 13] (fun kv iv wr => ∃ (i k : Nat), i ≤ m ∧ iv = .int .i64 (i : Int) ∧ kv = .int .i64 (k : Int) ∧ k < len ∧ Hid (goN N len 0 (lst f m) = goN N len k ((lst f m).drop i)) ∧ Below w.heap.size w wr) (fun _ iv _ => m - (intOf iv).toNat)
  case atStart => exact ⟨0, 0, Nat.zero_le _, rfl, rfl, h0, rfl, Below.refl _ _⟩
  case round =>
    obtain ⟨i, k, hi, rfl, rfl, hk, HG, hnx⟩ := hrel
    by_cases hlt : i < m
    · rcases HA.out with h0' | ⟨ba, oa, rfl, hba, haa⟩
      · omega
      have a0 := (hnx.cell hba).trans (haa i hlt)
      have i0 : (0 : Int) ≤ (i : Int) := by omega
      have i1 : (i : Int) < (m : Int) := by omega
      have HS : Hid (goN N len 0 (lst f m) = (findP (partsTo N k len) (f i)).bind fun p => goN N len p ((lst f m).drop (i + 1))) := by
        show _ = _
        rw [HG.out, lst_drop f hlt, goN]
      have hz := hnx.size
      clear haa
      go_wp2_with fail
      refine ((callsIn_wide (n := 5)).1 (partNamed_in b off c len k N (f i) _ hlen hk (fun j hj hu => by have := HPR.out j hj; omega) (by omega) (HAT.out.below hnx hb))).mono ?_
      rintro e w1 ⟨rfl, hb1⟩
      have HB : Hid (Below w.heap.size w w1) := hnx.trans (hb1.mono hz)
      clear hb1
      cases hf : findP (partsTo N k len) (f i) with
      | none =>
        have HN : Hid (goN N len 0 (lst f m) = none) := by show _ = _; rw [HS.out, hf]; rfl
        dsimp only [Option.getD, Option.isSome]
        go_wp2
        exact bodyPost_ret (v := .tuple #[.int .i64 0, .bool false]) (by simp [results, Tryz.results32, go_sem]) rfl ⟨by rw [HN.out]; rfl, HB.out⟩
      | some p =>
        have HS2 : Hid (goN N len 0 (lst f m) = goN N len p ((lst f m).drop (i + 1))) := by show _ = _; rw [HS.out, hf]; rfl
        have hp : p < len := (kidsTo_mem (findP_kid hf)).2.1
        dsimp only [Option.getD, Option.isSome]
        go_wp2
        go_roundw
        case rel => exact ⟨i + 1, p, by omega, by go_num, rfl, hp, HS2, HB.out⟩
        case measure => simp [intOf]; omega
    · obtain rfl : i = m := by omega
      have HN : Hid (goN N len 0 (lst f i) = some k) := by
        show _ = _
        rw [HG.out, List.drop_of_length_le (by rw [lst_length]; exact Nat.le_refl _), goN]
      go_wp2
      exact bodyPost_ret (v := .tuple #[.int .i64 (k : Int), .bool true]) (by simp [results, Tryz.results32, go_sem]) rfl ⟨by rw [HN.out]; rfl, hnx⟩

end Go.Proofs.YtnmbnebofbdmfaaGreatDoor
namespace Go.Proofs.YtnmbnebofbdmfaaGreatDoor
open Go.RowKit
set_option linter.unusedVariables false

def getT : Tr → List ByteArray → Option Tr
  | t, [] => some t
  | t, nm :: r => (atI t.kind t.names nm t.kids.length).bind fun i => (t.kids[i]?).bind fun x => getT x r

/-- WHAT l3Get ANSWERS. -/
def GotIs (t : Tr) (l : List ByteArray) (w : World) (e : Ending) (w' : World) : Prop :=
  ∃ (k n : Int) (tx : ByteArray) (an : Option Addr) (mn cn : Nat) (ak : Option Addr) (mk ck : Nat), e = .returned (.tuple #[.agg #[.int .i64 k, .int .i64 n, .string tx, .slice an mn cn, .slice ak mk ck], .bool (getT t l).isSome]) ∧ (∀ x, getT t l = some x → Tree w' x (.agg #[.int .i64 k, .int .i64 n, .string tx, .slice an mn cn, .slice ak mk ck])) ∧ Below w.heap.size w w'

end Go.Proofs.YtnmbnebofbdmfaaGreatDoor
namespace Go.Proofs.YtnmbnebofbdmfaaGreatDoor
open Go.RowKit
set_option linter.unusedVariables false

/-- Only a list and a map have parts. -/
theorem good_kids {N : Nat → Nd} {n k p : Nat} (h : GoodV N n) (hp : p ∈ kidsTo N k n) : (N k).kind = 6 ∨ (N k).kind = 7 := by
  obtain ⟨h1, h2, h3⟩ := kidsTo_mem hp
  have hpar : par N p = k := by unfold par; rw [h3]; rfl
  rcases (h.1.2.2 p h2).2.1 with ⟨e, _⟩ | ⟨_, _, _, _, ⟨h, _⟩ | ⟨h, _⟩⟩
  · omega
  · rw [hpar] at h; exact .inl h
  · rw [hpar] at h; exact .inr h
theorem good_up {N : Nat → Nd} {n : Nat} (h : GoodV N n) : ∀ i, i < n → (N i).up < (i : Int) := fun i hi => by
  have hp := good_pre h
  by_cases h0 : i = 0
  · subst h0
    rw [hp.1 hi]
    decide
  · exact (hp.2 i (by omega) hi).2.1

theorem parts_at {N : Nat → Nd} {k n i p : Nat} (h : (kidsTo N k n)[i]? = some p) : (partsTo N k n)[i]? = some (nmAt N k i p, p) := by
  unfold partsTo
  rw [List.getElem?_map, List.getElem?_zipIdx, h]
  simp

theorem hit_is {N : Nat → Nd} {n k i p : Nat} (hg : GoodV N n) (nm : ByteArray) (h : (kidsTo N k n)[i]? = some p) : hitI (N k).kind (kidNames N k (kidsTo N k n)) nm i = ((nmAt N k i p).toList == nm.toList) := by
  rcases good_kids hg (List.mem_of_getElem? h) with h6 | h7
  · unfold hitI nmAt
    rw [if_pos h6, h6]
    simp
  · have hn : (kidNames N k (kidsTo N k n)).getD i ByteArray.empty = (N p).name := by
      unfold kidNames
      rw [if_pos h7, List.getD_eq_getElem?_getD, List.getElem?_map, h]
      rfl
    unfold hitI nmAt
    rw [hn, if_neg (by rw [h7]; decide), h7]
    simp

theorem find_at {N : Nat → Nd} {n k : Nat} (hg : GoodV N n) (nm : ByteArray) : findP (partsTo N k n) nm = (atI (N k).kind (kidNames N k (kidsTo N k n)) nm (kidsTo N k n).length).bind fun i => (kidsTo N k n)[i]? := by
  cases ha : atI (N k).kind (kidNames N k (kidsTo N k n)) nm (kidsTo N k n).length with
  | none =>
    have hno : noneOf nm (partsTo N k n) := fun x hx => by
      obtain ⟨i, hi⟩ := List.mem_iff_getElem?.1 hx
      have hil : i < (kidsTo N k n).length := by
        have := (List.getElem?_eq_some_iff.1 hi).1
        rwa [partsTo_len] at this
      have hp : (kidsTo N k n)[i]? = some (kidsTo N k n)[i] := List.getElem?_eq_getElem hil
      have e := (parts_at hp).symm.trans hi
      obtain rfl := Option.some.inj e
      have := List.find?_eq_none.1 ha i (List.mem_range.2 hil)
      rw [hit_is hg nm hp] at this
      simpa using this
    rw [find_none hno]
    rfl
  | some i =>
    have hil := atI_lt ha
    have hp : (kidsTo N k n)[i]? = some (kidsTo N k n)[i] := List.getElem?_eq_getElem hil
    have hh : hitI (N k).kind (kidNames N k (kidsTo N k n)) nm i = true := List.find?_some ha
    have hit : hitOf nm ((partsTo N k n).take (i + 1)) := by
      refine ⟨(partsTo N k n).take i, (nmAt N k i (kidsTo N k n)[i], (kidsTo N k n)[i]), ?_, fun x hx => ?_, ?_⟩
      · rw [List.take_add_one, parts_at hp]; rfl
      · obtain ⟨j, hj⟩ := List.mem_iff_getElem?.1 hx
        have hjl := (List.getElem?_eq_some_iff.1 hj).1
        rw [List.length_take] at hjl
        have hji : j < i := by omega
        rw [List.getElem?_take_of_lt hji] at hj
        have hpj : (kidsTo N k n)[j]? = some (kidsTo N k n)[j] := List.getElem?_eq_getElem (by omega)
        have e := (parts_at hpj).symm.trans hj
        obtain rfl := Option.some.inj e
        have hne : hitI (N k).kind (kidNames N k (kidsTo N k n)) nm j = false := by
          have := (List.find?_range_eq_some.1 ha).2.2 j hji
          simpa using this
        rw [hit_is hg nm hpj] at hne
        exact hne
      · rw [← hit_is hg nm hp]; exact hh
    rw [find_hit hit (List.take_prefix _ _)]
    show some (lastN _) = (kidsTo N k n)[i]?
    rw [hp]
    congr 1
    unfold lastN
    rw [List.take_add_one, parts_at hp]
    simp

/-- BY NODES AND BY TREES THE SAME IS FOUND. -/
theorem get_go {N : Nat → Nd} {n : Nat} (hg : GoodV N n) : ∀ (l : List ByteArray) (k : Nat), k < n → getT (tree N n k) l = (goN N n k l).map (tree N n) := by
  intro l
  induction l with
  | nil => intro k hk; rfl
  | cons nm r ih =>
    intro k hk
    rw [goN, find_at hg nm, tree_eq hk, getT]
    show (atI (N k).kind (kidNames N k (kidsTo N k n)) nm ((kidsTo N k n).map (tree N n)).length).bind _ = _
    rw [List.length_map]
    cases ha : atI (N k).kind (kidNames N k (kidsTo N k n)) nm (kidsTo N k n).length with
    | none => rfl
    | some i =>
      have hil := atI_lt ha
      have hp : (kidsTo N k n)[i]? = some (kidsTo N k n)[i] := List.getElem?_eq_getElem hil
      have hm := kidsTo_mem (List.mem_of_getElem? hp)
      show (((kidsTo N k n).map (tree N n))[i]?).bind _ = Option.map _ (((kidsTo N k n)[i]?).bind _)
      rw [List.getElem?_map, hp]
      exact ih _ hm.2.1

end Go.Proofs.YtnmbnebofbdmfaaGreatDoor
namespace Go.Proofs.YtnmbnebofbdmfaaGreatDoor
open Go.RowKit
set_option linter.unusedVariables false

def nmsL (s : ByteArray) : List ByteArray := lst (namesF s.data.toList) (namesN s.data.toList)
/-- A value and a path of which it may be asked. -/
def AskedOf (N : Nat → Nd) (n : Nat) (s : ByteArray) : Prop := GoodV N n ∧ (namesL s.data.toList).isSome = true
theorem names60 (l : List UInt8) : namesN l ≤ 61 := by
  unfold namesN
  by_cases h : l.length ≤ 60
  · rw [names_pairs l h]
    split
    · show ((pairsL l).map _).length ≤ 61
      rw [List.length_map]
      have := pairs_len l
      omega
    · simp
  · have : namesL l = none := by
      unfold namesL
      rw [if_neg (fun k => h k.1)]
    rw [this]
    simp
theorem OwnS.argv {w : World} {g : Nat} {a : Option Addr} {n c : Nat} {f : Nat → ByteArray} (h : OwnS w g (.slice a n c) n f) : ArgS w a n f := h.arg

end Go.Proofs.YtnmbnebofbdmfaaGreatDoor
namespace Go.Proofs.YtnmbnebofbdmfaaGreatDoor
open Go.RowKit
set_option linter.unusedVariables false

def z5 : Value := .slice none 0 0
end Go.Proofs.YtnmbnebofbdmfaaGreatDoor
