/- The keys of a tree, one by one: the program's iterator keysOf. -/
import Derived.Test.YtnmbnebofbdmfaaTpG
namespace Go.Proofs.Ytnmbnebofbdmfaa
open Go.RowKit Go.Shelf
set_option linter.unusedVariables false
attribute [local go_sem] Oper.semAt_some

theorem round_wide {m m' : Nat} {P : Program} {l : Nat} {f : FuncId} {tmps : Array Value} {assign body : Code} {w : World} {R : Ending → World → Prop} (h : RoundIn Fence.wide m P l f tmps assign body w R) : RoundIn Fence.wide m' P l f tmps assign body w R :=
  ⟨h.1, fun c cs _ => h.2 c cs (room_wide _)⟩
/-- What a guard passes over is passed over, a call too. -/
theorem skip_wide {n : Nat} {P : Program} {ops : Array Oper} {Q : Exit → Act → World → Prop} {a : Act} {w : World} {rest : List Oper} {o : Oper} (hw : Region.wanted o (yielded ops a.tmps) = false) (h : wpListIn Fence.wide n P ops Q rest (a.put o.dst undef) w) : wpListIn Fence.wide n P ops Q (o :: rest) a w := by
  simp only [wpListIn, hw]
  exact ⟨fun _ _ => trivial, h⟩
/-- The keys of a tree, in order. -/
def Bt.keys (t : Bt) : List ByteArray := t.ino.map (·.1)
theorem Bt.keys_node (b : Nat) (k v : ByteArray) (l r : Bt) : (Bt.node b k v l r).keys = l.keys ++ k :: r.keys := by simp [Bt.keys, Bt.ino]
theorem Bt.keys_len (t : Bt) : t.keys.length = t.sz := by rw [Bt.keys, List.length_map, Bt.ino_len]
theorem F5.low {w w' : World} {B n : Nat} {x0 x1 x2 x3 x4 : Value} (h : F5 w B x0 x1 x2 x3 x4) (hb : Below n w w') (hB : B < n) : F5 w' B x0 x1 x2 x3 x4 := by
  obtain ⟨⟨a0, a1, a2, a3, a4⟩, f0, f1, f2, f3, f4⟩ := h
  exact ⟨⟨(hb.cell hB).trans a0, (hb.cell hB).trans a1, (hb.cell hB).trans a2, (hb.cell hB).trans a3, (hb.cell hB).trans a4⟩, (hb.frozen hB).trans f0, (hb.frozen hB).trans f1, (hb.frozen hB).trans f2, (hb.frozen hB).trans f3, (hb.frozen hB).trans f4⟩
theorem BrAt.low {w w' : World} {n : Nat} (hb : Below n w w') : ∀ t : Bt, BrAt w t → (∀ b ∈ t.bs, b < n) → BrAt w' t
  | .nil, _, _ => trivial
  | .node b k v l r, ⟨h1, h2, h3⟩, hd => ⟨h1.low hb (hd b (by simp [Bt.bs])), BrAt.low hb l h2 (fun x hx => hd x (by simp [Bt.bs, hx])), BrAt.low hb r h3 (fun x hx => hd x (by simp [Bt.bs, hx]))⟩

/-- What eachKey answers. -/
def EachSaid (t : Bt) (pre : List ByteArray) (n₀ : Nat) (J Jx : List ByteArray → World → Prop) (W : World) (e : Ending) (W' : World) : Prop :=
  (e = .returned (.bool true) ∧ J (pre ++ t.keys) W' ∧ Below n₀ W W') ∨ (e = .returned (.bool false) ∧ ∃ ys, ys <+: pre ++ t.keys ∧ Jx ys W')
def encKey (x : ByteArray) : Array Value := #[.string x]

set_option maxRecDepth 100000 in
set_option maxHeartbeats 1000000 in
theorem each_in (l n₀ : Nat) (J Jx : List ByteArray → World → Prop)
    (hY : ∀ pre x W1, J pre W1 → pre.length < 60 → YieldAt Fence.wide 0 Try.prog l (encKey x) W1 fun e W' =>
      (e = .returned (.bool true) ∧ J (pre ++ [x]) W' ∧ Below n₀ W1 W') ∨ (e = .returned (.bool false) ∧ Jx (pre ++ [x]) W')) :
    ∀ (t : Bt) (n : Nat) (pre : List ByteArray) (W : World), BrAt W t → (∀ b ∈ t.bs, b < n₀) → J pre W → pre.length + t.sz ≤ 60 →
      CallsIn Fence.wide n Try.prog 40 #[.pointer t.pa, .func (.yield l) #[] #[]] W (EachSaid t pre n₀ J Jx W) := by
  intro t
  induction t with
  | nil =>
    intro n pre W _ _ hJ _
    refine callsIn_of_wp Try.func40 rfl trivial ?_ rfl
    simp only [Try.ntmps40, List.size_toArray, List.length_cons, List.length_nil, Nat.reduceAdd, Nat.reduceSub, Array.replicate_succ, Array.replicate_zero, List.push_toArray, List.append_toArray, List.nil_append, List.cons_append]
    have HD : Hid (EachSaid .nil pre n₀ J Jx W (.returned (.bool true)) W) := .inl ⟨rfl, by simpa [Bt.keys, Bt.ino] using hJ, Below.refl _ _⟩
    rw [show Bt.nil.pa = none from rfl]
    gi_wp2_with (refine skip_wide rfl ?_)
    repeat (refine ⟨trivial, ?_⟩; gi_wp2_with (refine skip_wide rfl ?_))
    refine bodyPost_ret (v := .bool true) ?_ rfl ?_
    · simp [results, Try.results40, go_sem]
    · exact HD.out
  | node b k v tl tr ihl ihr =>
    intro n pre W hT hlow hJ hlen
    obtain ⟨⟨⟨a0, a1, a2, a3, a4⟩, _⟩, hL, hR⟩ := hT
    refine callsIn_of_wp Try.func40 rfl trivial ?_ rfl
    simp only [Try.ntmps40, List.size_toArray, List.length_cons, List.length_nil, Nat.reduceAdd, Nat.reduceSub, Array.replicate_succ, Array.replicate_zero, List.push_toArray, List.append_toArray, List.nil_append, List.cons_append]
    rw [show (Bt.node b k v tl tr).pa = some ⟨b, 0, none⟩ from rfl]
    have hb : b < n₀ := hlow b (by simp [Bt.bs])
    have HLW : Hid ((∀ x ∈ tl.bs, x < n₀) ∧ ∀ x ∈ tr.bs, x < n₀) := ⟨fun x hx => hlow x (by simp [Bt.bs, hx]), fun x hx => hlow x (by simp [Bt.bs, hx])⟩
    have HLE : Hid (pre.length + tl.sz + 1 + tr.sz ≤ 60) := by show _ ≤ _; rw [Bt.sz] at hlen; omega
    have HK : Hid ((Bt.node b k v tl tr).keys = tl.keys ++ k :: tr.keys) := Bt.keys_node _ _ _ _ _
    have HL : Hid (BrAt W tl ∧ BrAt W tr ∧ J pre W) := ⟨hL, hR, hJ⟩
    clear hlow hlen hL hR hJ
    gi_wp2_with fail
    refine ⟨trivial, fun h => (by cases h), (ihl _ pre W HL.out.1 HLW.out.1 HL.out.2.2 (by have := HLE.out; omega)).mono ?_⟩
    rintro e w1 (⟨rfl, hJ1, hb1⟩ | ⟨rfl, ys, hys, hx⟩)
    · have x0 : w1.cell? ⟨b, 0, none⟩ = some (.string k) := (hb1.cell hb).trans a0
      have x4 : w1.cell? ⟨b, 4, none⟩ = some (.pointer tr.pa) := (hb1.cell hb).trans a4
      have HB1 : Hid (Below n₀ W w1) := hb1
      have HJ1 : Hid (J (pre ++ tl.keys) w1) := hJ1
      obtain ⟨fn, tmps, assign, body, hy, hRn⟩ := hY (pre ++ tl.keys) k w1 hJ1 (by rw [List.length_append, Bt.keys_len]; have := HLE.out; omega)
      have hy' : Sem.run Try.prog (Instr.yield l #[Value.string k]) w1 = Result.ok (Next.round l fn tmps assign body) w1 := hy
      clear hy hJ1 hb1 a0 a1 a2 a3 a4
      gi_wp2_with fail
      refine ⟨fun h => (by cases h), (round_wide hRn).mono ?_⟩
      rintro e w2 (⟨rfl, hJ2, hb2⟩ | ⟨rfl, hx⟩)
      · have x4' : w2.cell? ⟨b, 4, none⟩ = some (.pointer tr.pa) := (hb2.cell hb).trans x4
        have HB2 : Hid (Below n₀ W w2) := HB1.out.trans hb2
        have HJ2 : Hid (J (pre ++ tl.keys ++ [k]) w2) := hJ2
        have HR2 : Hid (BrAt w2 tr) := BrAt.low HB2.out tr HL.out.2.1 HLW.out.2
        clear hJ2 hb2 x0 x4 hy' hRn
        gi_wp2_with fail
        refine ⟨trivial, fun h => (by cases h), (ihr _ (pre ++ tl.keys ++ [k]) w2 HR2.out HLW.out.2 HJ2.out (by rw [List.length_append, List.length_append, Bt.keys_len]; have := HLE.out; simp; omega)).mono ?_⟩
        rintro e w3 (⟨rfl, hJ3, hb3⟩ | ⟨rfl, ys, hys, hx⟩)
        · have HD : Hid (EachSaid (.node b k v tl tr) pre n₀ J Jx W (.returned (.bool true)) w3) := .inl ⟨rfl, by rw [HK.out]; simpa using hJ3, HB2.out.trans hb3⟩
          clear hJ3 hb3
          gi_wp2_with fail
          repeat (refine ⟨trivial, ?_⟩; gi_wp2_with (refine skip_wide rfl ?_))
          refine bodyPost_ret (v := .bool true) ?_ rfl ?_
          · simp [results, Try.results40, go_sem]
          · exact HD.out
        · have HD : Hid (EachSaid (.node b k v tl tr) pre n₀ J Jx W (.returned (.bool false)) w3) := .inr ⟨rfl, ys, by rw [HK.out]; simpa using hys, hx⟩
          clear hys hx
          gi_wp2_with fail
          repeat (refine ⟨trivial, ?_⟩; gi_wp2_with (refine skip_wide rfl ?_))
          refine bodyPost_ret (v := .bool false) ?_ rfl ?_
          · simp [results, Try.results40, go_sem]
          · exact HD.out
      · have HD : Hid (EachSaid (.node b k v tl tr) pre n₀ J Jx W (.returned (.bool false)) w2) := .inr ⟨rfl, _, by rw [HK.out, show pre ++ (tl.keys ++ k :: tr.keys) = (pre ++ tl.keys ++ [k]) ++ tr.keys by simp]; exact List.prefix_append _ _, hx⟩
        clear hx
        gi_wp2_with fail
        repeat (refine ⟨trivial, ?_⟩; gi_wp2_with (refine skip_wide rfl ?_))
        refine bodyPost_ret (v := .bool false) ?_ rfl ?_
        · simp [results, Try.results40, go_sem]
        · exact HD.out
    · have HD : Hid (EachSaid (.node b k v tl tr) pre n₀ J Jx W (.returned (.bool false)) w1) := .inr ⟨rfl, ys, by rw [HK.out]; exact hys.trans (by rw [← List.append_assoc]; exact List.prefix_append _ _), hx⟩
      clear hys hx
      gi_wp2_with (refine skip_wide rfl ?_)
      repeat (refine ⟨trivial, ?_⟩; gi_wp2_with (refine skip_wide rfl ?_))
      refine bodyPost_ret (v := .bool false) ?_ rfl ?_
      · simp [results, Try.results40, go_sem]
      · exact HD.out

set_option maxHeartbeats 1000000 in
/-- keysOf: the root is boxed; the function value captures the box. -/
theorem keysOf_in (n : Nat) (a : Option Addr) (w : World) :
    CallsIn Fence.wide n Try.prog 32 #[.pointer a] w fun e w' => e = .returned (.func (.func 39) #[] #[.pointer (some ⟨w.heap.size, 0, none⟩)]) ∧ w' = w.alloc (.cells #[.pointer a] 43) := by
  refine callsIn_of_wp Try.func32 rfl trivial ?_ rfl
  simp only [Try.ntmps32, List.size_toArray, List.length_cons, List.length_nil, Nat.reduceAdd, Nat.reduceSub, Array.replicate_succ, Array.replicate_zero, List.push_toArray, List.append_toArray, List.nil_append, List.cons_append]
  gi_wp2
  go_ret
  exact ⟨rfl, rfl⟩

set_option maxRecDepth 100000 in
set_option maxHeartbeats 1000000 in
theorem keys1_in (n l Bs n₀ : Nat) (t : Bt) (J Jx : List ByteArray → World → Prop)
    (hY : ∀ pre x W1, J pre W1 → pre.length < 60 → YieldAt Fence.wide (n - 1) Try.prog l (encKey x) W1 fun e W' =>
      (e = .returned (.bool true) ∧ J (pre ++ [x]) W' ∧ Below n₀ W1 W') ∨ (e = .returned (.bool false) ∧ Jx (pre ++ [x]) W'))
    (W : World) (hBs : W.cell? ⟨Bs, 0, none⟩ = some (.pointer t.pa)) (hT : BrAt W t) (hlow : ∀ b ∈ t.bs, b < n₀) (hs : t.sz ≤ 60) (h0 : J [] W) :
    CallsIn Fence.wide n Try.prog 39 #[.func (.yield l) #[] #[], .pointer (some ⟨Bs, 0, none⟩)] W fun e W' => (∃ v, e = .returned v) ∧
      ((∃ ys, ys = t.keys ∧ J ys W') ∨ (∃ pre, pre <+: t.keys ∧ Jx pre W')) := by
  refine callsIn_of_wp Try.func39 rfl trivial ?_ rfl
  simp only [Try.ntmps39, List.size_toArray, List.length_cons, List.length_nil, Nat.reduceAdd, Nat.reduceSub, Array.replicate_succ, Array.replicate_zero, List.push_toArray, List.append_toArray, List.nil_append, List.cons_append]
  gi_wp2_with fail
  refine ⟨trivial, fun h => (by cases h), (each_in l n₀ J Jx (fun pre x W1 h1 h2 => by
    obtain ⟨fn, tmps, assign, body, hy, hR⟩ := hY pre x W1 h1 h2
    exact ⟨fn, tmps, assign, body, hy, round_wide hR⟩) t _ [] W hT hlow h0 (by simpa using hs)).mono ?_⟩
  rintro e w1 (⟨rfl, hJ1, hb1⟩ | ⟨rfl, ys, hys, hx⟩)
  · gi_wp2
    go_end0
    exact ⟨⟨_, rfl⟩, .inl ⟨_, rfl, by simpa using hJ1⟩⟩
  · gi_wp2
    go_end0
    exact ⟨⟨_, rfl⟩, .inr ⟨_, by simpa using hys, hx⟩⟩

/-- THE ITERATOR's CONTRACT. -/
theorem keys_stops (n Bs n₀ : Nat) (t : Bt) (w : World) (hBs : Bs < w.heap.size) (hc : w.cell? ⟨Bs, 0, none⟩ = some (.pointer t.pa)) (hT : BrAt w t) (hlow : ∀ b ∈ t.bs, b < n₀) (hs : t.sz ≤ 60) :
    SeqStopsK Fence.wide n Try.prog 39 #[.pointer (some ⟨Bs, 0, none⟩)] encKey (Below n₀) (fun ys => ys = t.keys) (fun pre => pre <+: t.keys) 60 w := fun l J Jx W hW hJ _ hY h0 =>
  keys1_in n l Bs n₀ t J Jx hY W ((hW.cell (p := ⟨Bs, 0, none⟩) hBs).trans hc) (hT.below hW) hlow hs h0
end Go.Proofs.Ytnmbnebofbdmfaa
