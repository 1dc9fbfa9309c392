/- The parts of a node, one by one: the program's iterator partsOf. -/
import Derived.Test.YtadlflgflnlhjaaGreatDoorNamesIt
import Derived.Test.YtadlflgflnlhjaaGreatDoorQuote
import Derived.Test.YtadlflgflnlhjaaGreatDoorTell
namespace Go.Proofs.YtadlflgflnlhjaaGreatDoor
open Go.RowKit Go.Shelf
set_option linter.unusedVariables false
attribute [local go_sem] Oper.semAt_some

/-- The name that leads to the part p, the i-th of k. -/
def nmAt (N : Nat → Nd) (k i p : Nat) : ByteArray := if (N k).kind = 6 then strL (Lib.decDigits i) else (N p).name
/-- The parts of k ahead of j, each by its name. -/
def partsTo (N : Nat → Nd) (k j : Nat) : List (ByteArray × Nat) := (kidsTo N k j).zipIdx.map fun x => (nmAt N k x.2 x.1, x.1)
theorem partsTo_hit {N : Nat → Nd} {k j : Nat} (h : k < j ∧ (N j).up = k) : partsTo N k (j + 1) = partsTo N k j ++ [(nmAt N k (kidsTo N k j).length j, j)] := by
  unfold partsTo
  rw [kidsTo, if_pos h, List.zipIdx_append, List.map_append]
  simp
theorem partsTo_miss {N : Nat → Nd} {k j : Nat} (h : ¬ (k < j ∧ (N j).up = k)) : partsTo N k (j + 1) = partsTo N k j := by
  unfold partsTo
  rw [kidsTo, if_neg h]
theorem partsTo_len (N : Nat → Nd) (k j : Nat) : (partsTo N k j).length = (kidsTo N k j).length := by simp [partsTo]
theorem partsTo_prefix (N : Nat → Nd) (k j : Nat) : ∀ d, partsTo N k j <+: partsTo N k (j + d) := by
  intro d
  induction d with
  | zero => exact List.prefix_rfl
  | succ d ih =>
    by_cases h : k < j + d ∧ (N (j + d)).up = k
    · rw [← Nat.add_assoc, partsTo_hit h]
      exact ih.trans (List.prefix_append _ _)
    · rw [← Nat.add_assoc, partsTo_miss h]
      exact ih

/-- What the iterator hands on: a name, and a part's number. -/
def encSP (x : ByteArray × Nat) : Array Value := #[.string x.1, .int .i64 (x.2 : Int)]

/-- Three blocks are as they were. -/
structure Keep3 (b1 b2 b3 : Nat) (A C : World) : Prop where
  size : A.heap.size ≤ C.heap.size
  one : C.heap[b1]? = A.heap[b1]?
  two : C.heap[b2]? = A.heap[b2]?
  three : C.heap[b3]? = A.heap[b3]?
theorem Keep3.refl (b1 b2 b3 : Nat) (A : World) : Keep3 b1 b2 b3 A A := ⟨Nat.le_refl _, rfl, rfl, rfl⟩
theorem Keep3.trans {b1 b2 b3 : Nat} {A C D : World} (h : Keep3 b1 b2 b3 A C) (k : Keep3 b1 b2 b3 C D) : Keep3 b1 b2 b3 A D :=
  ⟨Nat.le_trans h.size k.size, k.one.trans h.one, k.two.trans h.two, k.three.trans h.three⟩
theorem Keep3.of {b1 b2 b3 B : Nat} {A C : World} (h : Below B A C) (h1 : b1 < B) (h2 : b2 < B) (h3 : b3 < B) : Keep3 b1 b2 b3 A C := ⟨h.size, h.block _ h1, h.block _ h2, h.block _ h3⟩
theorem NodesAt.keep3 {A C : World} {b off n B1 B2 : Nat} {N : Nat → Nd} (h : NodesAt A b off n N) (k : Keep3 b B1 B2 A C) : NodesAt C b off n N := fun i hi => by
  have e : ∀ o, C.cell? ⟨b, o, none⟩ = A.cell? ⟨b, o, none⟩ := fun o => World.cell?_of_block (w := A) k.one
  obtain ⟨h0, h1, h2, h3, h4⟩ := h i hi
  exact ⟨(e _).trans h0, (e _).trans h1, (e _).trans h2, (e _).trans h3, (e _).trans h4⟩

set_option maxRecDepth 100000 in
set_option maxHeartbeats 4000000 in
theorem partsOf1_in (n l B1 B2 b off c len k : Nat) (N : Nat → Nd) (hn : 1 ≤ n) (hlen : len ≤ 80) (hk : k < len) (hup : ∀ i, i < len → (N i).up = (k : Int) → k < i) (Kp : World → World → Prop) (hKp : ∀ A C, Kp A C → Keep3 b B1 B2 A C)
    (J Jx : List (ByteArray × Nat) → World → Prop)
    (hY : ∀ pre x W1, J pre W1 → pre.length < 80 → pre ++ [x] <+: partsTo N k len → YieldAt Fence.wide (n - 1) Tryz.prog l (encSP x) W1 fun e W' =>
      (e = .returned (.bool true) ∧ J (pre ++ [x]) W' ∧ Kp W1 W') ∨ (e = .returned (.bool false) ∧ Jx (pre ++ [x]) W'))
    (W : World) (hJ : AbidesFrom W.heap.size J) (h1 : W.cell? ⟨B1, 0, none⟩ = some (.slice (some ⟨b, off, none⟩) len c)) (h2 : W.cell? ⟨B2, 0, none⟩ = some (.int .i64 (k : Int))) (hat : NodesAt W b off len N) (h0 : J [] W) :
    CallsIn Fence.wide n Tryz.prog 126 #[.func (.yield l) #[] #[], .pointer (some ⟨B1, 0, none⟩), .pointer (some ⟨B2, 0, none⟩)] W fun e W' => (∃ v, e = .returned v) ∧
      ((∃ ys, ys = partsTo N k len ∧ J ys W') ∨ (∃ pre, pre <+: partsTo N k len ∧ Jx pre W')) := by
  have HAT : Hid (NodesAt W b off len N) := hat
  have HUP : Hid (∀ i, i < len → (N i).up = (k : Int) → k < i) := hup
  have q1 := World.block_lt_of_cell? _ _ h1
  have q2 := World.block_lt_of_cell? _ _ h2
  have q3 : b < W.heap.size := World.block_lt_of_cell? _ _ (hat 0 (by omega)).1
  dsimp only at q1 q2
  clear hat hup
  refine callsIn_of_wp Tryz.func126 rfl trivial ?_ rfl
  simp only [Tryz.ntmps126, List.size_toArray, List.length_cons, List.length_nil, Nat.reduceAdd, Nat.reduceSub, Array.replicate_succ, Array.replicate_zero, List.push_toArray, List.append_toArray, List.nil_append, List.cons_append]
  gi_wp2_with fail
  gi_loopw [4, 10] (fun av iv wr => ∃ j : Nat, j ≤ len ∧ iv = .int .i64 (j : Int) ∧ av = .int .i64 ((kidsTo N k j).length : Int) ∧ Hid (J (partsTo N k j) wr ∧ Keep3 b B1 B2 W wr)) (fun _ iv _ => len - (intOf iv).toNat)
  case atStart => exact ⟨0, Nat.zero_le _, rfl, rfl, h0, Keep3.refl _ _ _ _⟩
  case round =>
    obtain ⟨j, hj, rfl, rfl, HR⟩ := hrel
    by_cases hlt : j < len
    · have hz := HR.out.2.size
      obtain ⟨a0, a1, a2, a3, a4⟩ := HAT.out.keep3 HR.out.2 j hlt
      have c1 : wr.cell? ⟨B1, 0, none⟩ = some (.slice (some ⟨b, off, none⟩) len c) := (World.cell?_of_block (w := W) HR.out.2.two).trans h1
      have c2 : wr.cell? ⟨B2, 0, none⟩ = some (.int .i64 (k : Int)) := (World.cell?_of_block (w := W) HR.out.2.three).trans h2
      have ck := (HAT.out.keep3 HR.out.2 k hk).1
      have i0 : (0 : Int) ≤ (j : Int) := by omega
      have i1 : (j : Int) < (len : Int) := by omega
      have i2 : (0 : Int) ≤ (k : Int) := by omega
      have i3 : (k : Int) < (len : Int) := by omega
      have b1 : B1 < wr.heap.size := by omega
      have b2 : B2 < wr.heap.size := by omega
      have b3 : b < wr.heap.size := by omega
      obtain ⟨W2, hW2⟩ : ∃ W2, W2 = wr.alloc (Obj.cells #[Value.int .i64 (N j).kind, .int .i64 (N j).num, .string (N j).text, .string (N j).name, .int .i64 (N j).up] 77) := ⟨_, rfl⟩
      have hb2 : Below wr.heap.size wr W2 := by rw [hW2]; exact (Below.refl _ _).alloc (Nat.le_refl _) _
      have HJ2 : Hid (J (partsTo N k j) W2) := abide_on hJ HR.out.1 hb2
      have HK2 : Hid (Keep3 b B1 B2 wr W2) := Keep3.of hb2 b3 b1 b2
      clear hb2
      by_cases hu : (N j).up = (k : Int)
      · have hub : ((N j).up != (k : Int)) = false := by simp [hu]
        have hkj : k < j := HUP.out j hlt hu
        have HPH : Hid (partsTo N k (j + 1) = partsTo N k j ++ [(nmAt N k (kidsTo N k j).length j, j)]) := partsTo_hit ⟨hkj, hu⟩
        have HKL : Hid ((kidsTo N k (j + 1)).length = (kidsTo N k j).length + 1) := by show _ = _; rw [kidsTo, if_pos ⟨hkj, hu⟩, List.length_append]; rfl
        have HPX : Hid (partsTo N k j ++ [(nmAt N k (kidsTo N k j).length j, j)] <+: partsTo N k len) := by
          have := partsTo_prefix N k (j + 1) (len - (j + 1))
          rw [HPH.out, show j + 1 + (len - (j + 1)) = len by omega] at this
          exact this
        have hkl : (kidsTo N k j).length ≤ j := kids_len N k j
        obtain ⟨fn, tmps, assign, body, hy, hR⟩ := hY (partsTo N k j) (nmAt N k (kidsTo N k j).length j, j) W2 HJ2.out (by rw [partsTo_len]; omega) HPX.out
        dsimp only [encSP] at hy
        rw [hW2] at hy hR
        by_cases h6 : (N k).kind = 6
        · have h6b : ((N k).kind == (6 : Int)) = true := by simp [h6]
          rw [show nmAt N k (kidsTo N k j).length j = ⟨(Lib.decDigits (kidsTo N k j).length).toArray⟩ by unfold nmAt; rw [if_pos h6]; rfl] at hy
          rw [hW2] at HK2
          clear hW2 HJ2 hu h6
          gi_wp2_with fail
          refine ⟨trivial, (callsIn_wide.2 (Tryz.strconv_Itoa_small (kidsTo N k j).length (by omega) _)).mono ?_⟩
          rintro e w0 ⟨rfl, hw0⟩
          have hw := hw0.symm
          subst hw
          clear hw0
          gi_wp2
          refine hR.mono ?_
          rintro e w3 (⟨rfl, hJ3, hk3⟩ | ⟨rfl, hJx3⟩)
          · have HR3 : Hid (J (partsTo N k (j + 1)) w3 ∧ Keep3 b B1 B2 W w3) := ⟨by rw [HPH.out]; exact hJ3, (HR.out.2.trans HK2.out).trans (hKp _ _ hk3)⟩
            clear hJ3 hk3
            gi_wp2
            go_roundw
            case rel => exact ⟨j + 1, by omega, by simp, by rw [HKL.out]; simp, HR3⟩
            case measure => simp [intOf]; omega
          · gi_wp2
            refine bodyPost_ret (results_none rfl _ _ _) rfl ?_
            exact ⟨⟨_, rfl⟩, .inr ⟨_, HPX.out, hJx3⟩⟩
        · have h6b : ((N k).kind == (6 : Int)) = false := by simpa using h6
          rw [show nmAt N k (kidsTo N k j).length j = (N j).name by unfold nmAt; rw [if_neg h6]] at hy
          rw [hW2] at HK2
          clear hW2 HJ2 hu h6
          gi_wp2
          refine hR.mono ?_
          rintro e w3 (⟨rfl, hJ3, hk3⟩ | ⟨rfl, hJx3⟩)
          · have HR3 : Hid (J (partsTo N k (j + 1)) w3 ∧ Keep3 b B1 B2 W w3) := ⟨by rw [HPH.out]; exact hJ3, (HR.out.2.trans HK2.out).trans (hKp _ _ hk3)⟩
            clear hJ3 hk3
            gi_wp2
            go_roundw
            case rel => exact ⟨j + 1, by omega, by simp, by rw [HKL.out]; simp, HR3⟩
            case measure => simp [intOf]; omega
          · gi_wp2
            refine bodyPost_ret (results_none rfl _ _ _) rfl ?_
            exact ⟨⟨_, rfl⟩, .inr ⟨_, HPX.out, hJx3⟩⟩
      · have hub : ((N j).up != (k : Int)) = true := by simpa using hu
        have HP : Hid (partsTo N k (j + 1) = partsTo N k j ∧ (kidsTo N k (j + 1)).length = (kidsTo N k j).length) := ⟨partsTo_miss (fun h => hu h.2), by rw [kidsTo, if_neg (fun h => hu h.2)]⟩
        have HR2 : Hid (J (partsTo N k (j + 1)) W2 ∧ Keep3 b B1 B2 W W2) := ⟨by rw [HP.out.1]; exact HJ2.out, HR.out.2.trans HK2.out⟩
        rw [hW2] at HR2
        clear hW2 HJ2 HK2 hu
        gi_wp2
        go_roundw
        case rel => exact ⟨j + 1, by omega, by simp, by rw [HP.out.2], HR2⟩
        case measure => simp [intOf]; omega
    · obtain rfl : j = len := by omega
      gi_wp2
      go_end0
      exact ⟨⟨_, rfl⟩, .inl ⟨_, rfl, HR.out.1⟩⟩

set_option maxHeartbeats 1000000 in
/-- partsOf: both are boxed; the function value captures the boxes. -/
theorem partsOf_in (n : Nat) (a : Option Addr) (len c k : Nat) (w : World) :
    CallsIn Fence.wide n Tryz.prog 117 #[.slice a len c, .int .i64 (k : Int)] w fun e w' => e = .returned (.func (.func 126) #[] #[.pointer (some ⟨w.heap.size, 0, none⟩), .pointer (some ⟨w.heap.size + 1, 0, none⟩)]) ∧ w' = (w.alloc (.cells #[.slice a len c] 26)).alloc (.cells #[.int .i64 (k : Int)] 3) := by
  refine callsIn_of_wp Tryz.func117 rfl trivial ?_ rfl
  simp only [Tryz.ntmps117, List.size_toArray, List.length_cons, List.length_nil, Nat.reduceAdd, Nat.reduceSub, Array.replicate_succ, Array.replicate_zero, List.push_toArray, List.append_toArray, List.nil_append, List.cons_append]
  gi_wp2
  go_ret
  exact ⟨rfl, rfl⟩

/-- THE ITERATOR's CONTRACT. -/
theorem parts_stops (n B1 B2 b off c len k : Nat) (N : Nat → Nd) (hn : 1 ≤ n) (hlen : len ≤ 80) (hk : k < len) (hup : ∀ i, i < len → (N i).up = (k : Int) → k < i) (Kp : World → World → Prop) (hKp : ∀ A C, Kp A C → Keep3 b B1 B2 A C) (w : World)
    (hB1 : B1 < w.heap.size) (hB2 : B2 < w.heap.size) (hb : b < w.heap.size) (h1 : w.cell? ⟨B1, 0, none⟩ = some (.slice (some ⟨b, off, none⟩) len c)) (h2 : w.cell? ⟨B2, 0, none⟩ = some (.int .i64 (k : Int))) (hat : NodesAt w b off len N) :
    SeqStopsK Fence.wide n Tryz.prog 126 #[.pointer (some ⟨B1, 0, none⟩), .pointer (some ⟨B2, 0, none⟩)] encSP Kp (fun ys => ys = partsTo N k len) (fun pre => pre <+: partsTo N k len) 80 w := fun l J Jx W hW hJ _ hY h0 =>
  partsOf1_in n l B1 B2 b off c len k N hn hlen hk hup Kp hKp J Jx (fun pre x W1 h1 h2 _ => hY pre x W1 h1 h2) W hJ ((hW.cell (p := ⟨B1, 0, none⟩) hB1).trans h1) ((hW.cell (p := ⟨B2, 0, none⟩) hB2).trans h2) (hat.below hW hb) h0

/-- The parts, each with what is known of it. -/
abbrev PartOf (N : Nat → Nd) (k len : Nat) := { x : ByteArray × Nat // x ∈ partsTo N k len }
def valsOf {N : Nat → Nd} {k len : Nat} (l : List (PartOf N k len)) : List (ByteArray × Nat) := l.map (·.1)
theorem valsOf_snoc {N : Nat → Nd} {k len : Nat} (l : List (PartOf N k len)) (x : PartOf N k len) : valsOf (l ++ [x]) = valsOf l ++ [x.1] := by simp [valsOf]
theorem valsOf_inj {N : Nat → Nd} {k len : Nat} : ∀ {a b : List (PartOf N k len)}, valsOf a = valsOf b → a = b := by
  intro a
  induction a with
  | nil => intro b h; cases b with
    | nil => rfl
    | cons y b => simp [valsOf] at h
  | cons x a ih => intro b h; cases b with
    | nil => simp [valsOf] at h
    | cons y b =>
      simp only [valsOf, List.map_cons, List.cons.injEq] at h
      rw [Subtype.ext h.1, ih h.2]

/-- THE ITERATOR's CONTRACT, for a body that must know of what it is handed. -/
theorem parts_stopsS (n B1 B2 b off c len k : Nat) (N : Nat → Nd) (hn : 1 ≤ n) (hlen : len ≤ 80) (hk : k < len) (hup : ∀ i, i < len → (N i).up = (k : Int) → k < i) (Kp : World → World → Prop) (hKp : ∀ A C, Kp A C → Keep3 b B1 B2 A C) (w : World)
    (hB1 : B1 < w.heap.size) (hB2 : B2 < w.heap.size) (hb : b < w.heap.size) (h1 : w.cell? ⟨B1, 0, none⟩ = some (.slice (some ⟨b, off, none⟩) len c)) (h2 : w.cell? ⟨B2, 0, none⟩ = some (.int .i64 (k : Int))) (hat : NodesAt w b off len N) :
    SeqStopsK Fence.wide n Tryz.prog 126 #[.pointer (some ⟨B1, 0, none⟩), .pointer (some ⟨B2, 0, none⟩)] (fun x : PartOf N k len => encSP x.1) Kp (fun ys => valsOf ys = partsTo N k len) (fun pre => valsOf pre <+: partsTo N k len) 80 w := fun l J Jx W hW hJ hJx hY h0 => by
  refine (partsOf1_in n l B1 B2 b off c len k N hn hlen hk hup Kp hKp (fun pre W => ∃ pre', valsOf pre' = pre ∧ J pre' W) (fun pre W => ∃ pre', valsOf pre' = pre ∧ Jx pre' W) ?_ W ?_ ((hW.cell (p := ⟨B1, 0, none⟩) hB1).trans h1) ((hW.cell (p := ⟨B2, 0, none⟩) hB2).trans h2) (hat.below hW hb) ⟨[], rfl, h0⟩).mono ?_
  · rintro pre x W1 ⟨pre', rfl, hp⟩ hl hpx
    have hx : x ∈ partsTo N k len := hpx.subset (by simp)
    obtain ⟨fn, tmps, assign, body, hy, hR⟩ := hY pre' ⟨x, hx⟩ W1 hp (by simpa [valsOf] using hl)
    refine ⟨fn, tmps, assign, body, hy, hR.mono ?_⟩
    rintro e W' (⟨rfl, hj, hk'⟩ | ⟨rfl, hj⟩)
    · exact .inl ⟨rfl, ⟨pre' ++ [⟨x, hx⟩], valsOf_snoc _ _, hj⟩, hk'⟩
    · exact .inr ⟨rfl, ⟨pre' ++ [⟨x, hx⟩], valsOf_snoc _ _, hj⟩⟩
  · rintro s A C row ⟨s', rfl, hs⟩ hg hr
    exact ⟨s', rfl, hJ s' A C row hs hg hr⟩
  · rintro e W' ⟨he, ⟨ys, rfl, ys', hv, hj⟩ | ⟨pre, hp, pre', rfl, hj⟩⟩
    · exact ⟨he, .inl ⟨ys', hv, hj⟩⟩
    · exact ⟨he, .inr ⟨pre', hp, hj⟩⟩

end Go.Proofs.YtadlflgflnlhjaaGreatDoor
