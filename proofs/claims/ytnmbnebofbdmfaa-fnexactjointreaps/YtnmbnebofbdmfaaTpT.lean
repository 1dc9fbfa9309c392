/- Trees told by links, in memory: split, joined and cut by the program. -/
import Derived.Test.YtnmbnebofbdmfaaTpM
import Derived.RegionTactic
import Derived.Deep.RegionWith
import Derived.Deep.DeepFit
import Derived.Deep.QuietTactic
import Derived.BigQuiet
namespace Go.Proofs.Ytnmbnebofbdmfaa
open Go.RowKit
set_option linter.unusedVariables false

/-- Where its root lies. -/
def Bt.pa : Bt → Option Addr
  | .nil => none
  | .node b _ _ _ _ => some ⟨b, 0, none⟩
/-- Five cells at the head of a block that may be written. -/
def F5 (w : World) (B : Nat) (x0 x1 x2 x3 x4 : Value) : Prop :=
  (w.cell? ⟨B, 0, none⟩ = some x0 ∧ w.cell? ⟨B, 1, none⟩ = some x1 ∧ w.cell? ⟨B, 2, none⟩ = some x2 ∧ w.cell? ⟨B, 3, none⟩ = some x3 ∧ w.cell? ⟨B, 4, none⟩ = some x4) ∧
  (w.frozen? ⟨B, 0, none⟩ = false ∧ w.frozen? ⟨B, 1, none⟩ = false ∧ w.frozen? ⟨B, 2, none⟩ = false ∧ w.frozen? ⟨B, 3, none⟩ = false ∧ w.frozen? ⟨B, 4, none⟩ = false)
/-- A tree lies in memory. -/
def BrAt (w : World) : Bt → Prop
  | .nil => True
  | .node b k v l r => F5 w b (.string k) (.string v) (.int .i64 (wt k)) (.pointer l.pa) (.pointer r.pa) ∧ BrAt w l ∧ BrAt w r
/-- Nothing but these blocks has changed. -/
structure Only (P : Nat → Prop) (w w' : World) : Prop where
  os : w'.os = w.os
  tape : w'.tape = w.tape
  output : w'.output = w.output
  size : w'.heap.size = w.heap.size
  block : ∀ k, ¬ P k → w'.heap[k]? = w.heap[k]?
theorem Only.refl (P : Nat → Prop) (w : World) : Only P w w := ⟨rfl, rfl, rfl, rfl, fun _ _ => rfl⟩
theorem Only.trans {P : Nat → Prop} {a b c : World} (h : Only P a b) (k : Only P b c) : Only P a c :=
  ⟨k.os.trans h.os, k.tape.trans h.tape, k.output.trans h.output, k.size.trans h.size, fun i hi => (k.block i hi).trans (h.block i hi)⟩
theorem Only.mono {P Q : Nat → Prop} {a b : World} (h : Only P a b) (hq : ∀ k, P k → Q k) : Only Q a b :=
  ⟨h.os, h.tape, h.output, h.size, fun i hi => h.block i (fun hp => hi (hq i hp))⟩
theorem Only.drew {P : Nat → Prop} {a b : World} (h : Only P a b) : Only P a b.drew := ⟨h.os, h.tape, h.output, h.size, h.block⟩
theorem Only.drewN {P : Nat → Prop} {a b : World} (h : Only P a b) (n : Nat) : Only P a (b.drewN n) := ⟨h.os, h.tape, h.output, h.size, h.block⟩
theorem Only.set (w : World) (b o : Nat) (v : Value) : Only (fun k => k = b) w (w.setCell ⟨b, o, none⟩ v) :=
  ⟨rfl, rfl, rfl, by simp [World.setCell], fun k hk => Below.heap_setCell _ _ _ _ hk⟩
theorem Only.cell {P : Nat → Prop} {w w' : World} (h : Only P w w') {g o : Nat} (hg : ¬ P g) : w'.cell? ⟨g, o, none⟩ = w.cell? ⟨g, o, none⟩ := World.cell?_of_block (w := w) (h.block g hg)
theorem Only.frozen {P : Nat → Prop} {w w' : World} (h : Only P w w') {g o : Nat} (hg : ¬ P g) : w'.frozen? ⟨g, o, none⟩ = w.frozen? ⟨g, o, none⟩ := World.frozen?_of_block (w := w) (h.block g hg)
theorem Only.below {P : Nat → Prop} {w w' : World} (h : Only P w w') {B : Nat} (hB : ∀ k, P k → B ≤ k) : Below B w w' :=
  ⟨h.os, h.tape, h.output, Nat.le_of_eq h.size.symm, fun k hk => h.block k (fun hp => by have := hB k hp; omega)⟩
theorem F5.only {P : Nat → Prop} {w w' : World} {B : Nat} {x0 x1 x2 x3 x4 : Value} (h : F5 w B x0 x1 x2 x3 x4) (ho : Only P w w') (hB : ¬ P B) : F5 w' B x0 x1 x2 x3 x4 := by
  obtain ⟨⟨a0, a1, a2, a3, a4⟩, f0, f1, f2, f3, f4⟩ := h
  exact ⟨⟨(ho.cell hB).trans a0, (ho.cell hB).trans a1, (ho.cell hB).trans a2, (ho.cell hB).trans a3, (ho.cell hB).trans a4⟩, (ho.frozen hB).trans f0, (ho.frozen hB).trans f1, (ho.frozen hB).trans f2, (ho.frozen hB).trans f3, (ho.frozen hB).trans f4⟩
theorem F5.set3 {w : World} {B : Nat} {x0 x1 x2 x3 x4 : Value} (h : F5 w B x0 x1 x2 x3 x4) (y : Value) : F5 (w.setCell ⟨B, 3, none⟩ y) B x0 x1 x2 y x4 := by
  obtain ⟨⟨a0, a1, a2, a3, a4⟩, f0, f1, f2, f3, f4⟩ := h
  have e : (w.cell? ⟨B, 3, none⟩).isSome = true := by rw [a3]; rfl
  refine ⟨⟨?_, ?_, ?_, ?_, ?_⟩, ?_, ?_, ?_, ?_, ?_⟩
  · rw [cell_set e, if_neg (by omega), a0]
  · rw [cell_set e, if_neg (by omega), a1]
  · rw [cell_set e, if_neg (by omega), a2]
  · rw [cell_set e, if_pos rfl]
  · rw [cell_set e, if_neg (by omega), a4]
  all_goals rw [World.frozen?_setCell]; assumption
theorem F5.set4 {w : World} {B : Nat} {x0 x1 x2 x3 x4 : Value} (h : F5 w B x0 x1 x2 x3 x4) (y : Value) : F5 (w.setCell ⟨B, 4, none⟩ y) B x0 x1 x2 x3 y := by
  obtain ⟨⟨a0, a1, a2, a3, a4⟩, f0, f1, f2, f3, f4⟩ := h
  have e : (w.cell? ⟨B, 4, none⟩).isSome = true := by rw [a4]; rfl
  refine ⟨⟨?_, ?_, ?_, ?_, ?_⟩, ?_, ?_, ?_, ?_, ?_⟩
  · rw [cell_set e, if_neg (by omega), a0]
  · rw [cell_set e, if_neg (by omega), a1]
  · rw [cell_set e, if_neg (by omega), a2]
  · rw [cell_set e, if_neg (by omega), a3]
  · rw [cell_set e, if_pos rfl]
  all_goals rw [World.frozen?_setCell]; assumption
theorem BrAt.only {P : Nat → Prop} {w w' : World} (ho : Only P w w') : ∀ t : Bt, BrAt w t → (∀ b ∈ t.bs, ¬ P b) → BrAt w' t
  | .nil, _, _ => trivial
  | .node b k v l r, ⟨h1, h2, h3⟩, hd => ⟨h1.only ho (hd b (by simp [Bt.bs])), BrAt.only ho l h2 (fun x hx => hd x (by simp [Bt.bs, hx])), BrAt.only ho r h3 (fun x hx => hd x (by simp [Bt.bs, hx]))⟩
theorem BrAt.drewN {w : World} {t : Bt} (h : BrAt w t) (n : Nat) : BrAt (w.drewN n) t := BrAt.only ((Only.refl (fun _ => False) w).drewN n) t h (fun _ _ => id)
theorem nodup_node {b : Nat} {k v : ByteArray} {l r : Bt} (h : (Bt.node b k v l r).bs.Nodup) : b ∉ l.bs ∧ b ∉ r.bs ∧ l.bs.Nodup ∧ r.bs.Nodup ∧ ∀ x ∈ l.bs, x ∉ r.bs := by
  rw [Bt.bs, List.nodup_cons, List.mem_append, List.nodup_append] at h
  obtain ⟨h1, h2, h3, h4⟩ := h
  exact ⟨fun h => h1 (.inl h), fun h => h1 (.inr h), h2, h3, fun x hx hr => h4 x hx x hr rfl⟩

theorem br_right {w : World} {b : Nat} {k v : ByteArray} {l r1 : Bt} {x : Value} (h : F5 w b (.string k) (.string v) (.int .i64 (wt k)) (.pointer l.pa) x) (hl : BrAt w l) (h1 : BrAt w r1) (d1 : b ∉ l.bs) (d2 : b ∉ r1.bs) :
    BrAt (w.setCell ⟨b, 4, none⟩ (.pointer r1.pa)) (.node b k v l r1) :=
  ⟨h.set4 _, BrAt.only (Only.set w b 4 _) l hl (fun x hx e => d1 (by rw [← e]; exact hx)), BrAt.only (Only.set w b 4 _) r1 h1 (fun x hx e => d2 (by rw [← e]; exact hx))⟩
theorem br_left {w : World} {b : Nat} {k v : ByteArray} {l1 r : Bt} {x : Value} (h : F5 w b (.string k) (.string v) (.int .i64 (wt k)) x (.pointer r.pa)) (hr : BrAt w r) (h1 : BrAt w l1) (d1 : b ∉ l1.bs) (d2 : b ∉ r.bs) :
    BrAt (w.setCell ⟨b, 3, none⟩ (.pointer l1.pa)) (.node b k v l1 r) :=
  ⟨h.set3 _, BrAt.only (Only.set w b 3 _) l1 h1 (fun x hx e => d1 (by rw [← e]; exact hx)), BrAt.only (Only.set w b 3 _) r hr (fun x hx e => d2 (by rw [← e]; exact hx))⟩
theorem only_set {P : Nat → Prop} {w w1 : World} (h : Only P w w1) {Q : Nat → Prop} (hq : ∀ k, P k → Q k) {b : Nat} (hb : Q b) (o : Nat) (v : Value) : Only Q w (w1.setCell ⟨b, o, none⟩ v) :=
  (h.mono hq).trans ((Only.set w1 b o v).mono (fun k e => by rw [e]; exact hb))

/-- What splitBranch answers. -/
def SplitSaid (key : ByteArray) (t : Bt) : Prop := ∀ (w : World), BrAt w t → t.bs.Nodup →
    Calls Try.prog 42 #[.pointer t.pa, .string key] w fun e w' => e = .returned (.tuple #[.pointer (t.split key).1.pa, .pointer (t.split key).2.pa]) ∧ BrAt w' (t.split key).1 ∧ BrAt w' (t.split key).2 ∧ Only (fun b => b ∈ t.bs) w w'

set_option maxRecDepth 100000 in
set_option maxHeartbeats 2000000 in
theorem split_node (key : ByteArray) (b : Nat) (k v : ByteArray) (l r : Bt) (ihl : SplitSaid key l) (ihr : SplitSaid key r) : SplitSaid key (.node b k v l r) := by
  intro w h hn
  obtain ⟨d1, d2, d3, d4, d5⟩ := nodup_node hn
  obtain ⟨hF, hl, hr⟩ := h
  have HF : Hid (F5 w b (.string k) (.string v) (.int .i64 (wt k)) (.pointer l.pa) (.pointer r.pa)) := hF
  have HL : Hid (BrAt w l) := hl
  have HR : Hid (BrAt w r) := hr
  have HD : Hid (b ∉ l.bs ∧ b ∉ r.bs ∧ l.bs.Nodup ∧ r.bs.Nodup ∧ ∀ x ∈ l.bs, x ∉ r.bs) := ⟨d1, d2, d3, d4, d5⟩
  obtain ⟨⟨a0, a1, a2, a3, a4⟩, f0, f1, f2, f3, f4⟩ := hF
  clear hl hr d1 d2 d3 d4 d5 hn
  show Calls _ _ #[.pointer (some ⟨b, 0, none⟩), .string key] w _
  by_cases hk : kLt k key
  · have hk' : Op.bytesLess k.toList key.toList = true := hk
    have HS : Hid ((Bt.node b k v l r).split key = (.node b k v l (r.split key).1, (r.split key).2)) := by show _ = _; rw [Bt.split, if_pos hk]
    go_enter Try.func42, Try.ntmps42
    go_wp2_with fail
    refine (ihr w HR.out HD.out.2.2.2.1).mono ?_
    rintro e w1 ⟨rfl, h1, h2, ho⟩
    have hF1 := HF.out.only ho HD.out.2.1
    have HF1 : Hid (F5 w1 b (.string k) (.string v) (.int .i64 (wt k)) (.pointer l.pa) (.pointer r.pa)) := hF1
    have HO : Hid (Only (fun x => x ∈ r.bs) w w1) := ho
    have H1 : Hid (BrAt w1 (r.split key).1 ∧ BrAt w1 (r.split key).2) := ⟨h1, h2⟩
    obtain ⟨⟨a0', a1', a2', a3', a4'⟩, f0', f1', f2', f3', f4'⟩ := hF1
    clear h1 h2 ho a0 a1 a2 a3 a4 f0 f1 f2 f3 f4
    go_wp2_with fail
    have m1 : ∀ x ∈ (r.split key).1.bs, x ∈ r.bs := fun x hx => (split_bs key r).mem_iff.1 (List.mem_append.2 (.inl hx))
    have m2 : ∀ x ∈ (r.split key).2.bs, x ∈ r.bs := fun x hx => (split_bs key r).mem_iff.1 (List.mem_append.2 (.inr hx))
    have hl1 : BrAt w1 l := BrAt.only HO.out l HL.out (fun x hx => HD.out.2.2.2.2 x hx)
    rw [HS.out]
    refine bodyPost_ret (v := .tuple #[.pointer (some ⟨b, 0, none⟩), .pointer (r.split key).2.pa]) (by simp [results, Try.results42, go_sem]) rfl ⟨rfl, ?_, ?_, ?_⟩
    · exact br_right HF1.out hl1 H1.out.1 HD.out.1 (fun hx => HD.out.2.1 (m1 b hx))
    · exact BrAt.only (Only.set w1 b 4 _) _ H1.out.2 (fun x hx e => HD.out.2.1 (m2 b (by rw [← e]; exact hx)))
    · exact only_set HO.out (fun x hx => by simp [Bt.bs, hx]) (by simp [Bt.bs]) _ _
  · have hk' : Op.bytesLess k.toList key.toList = false := by rw [← Bool.not_eq_true]; exact hk
    have HS : Hid ((Bt.node b k v l r).split key = ((l.split key).1, .node b k v (l.split key).2 r)) := by show _ = _; rw [Bt.split, if_neg hk]
    go_enter Try.func42, Try.ntmps42
    go_wp2_with fail
    refine (ihl w HL.out HD.out.2.2.1).mono ?_
    rintro e w1 ⟨rfl, h1, h2, ho⟩
    have hF1 := HF.out.only ho HD.out.1
    have HF1 : Hid (F5 w1 b (.string k) (.string v) (.int .i64 (wt k)) (.pointer l.pa) (.pointer r.pa)) := hF1
    have HO : Hid (Only (fun x => x ∈ l.bs) w w1) := ho
    have H1 : Hid (BrAt w1 (l.split key).1 ∧ BrAt w1 (l.split key).2) := ⟨h1, h2⟩
    obtain ⟨⟨a0', a1', a2', a3', a4'⟩, f0', f1', f2', f3', f4'⟩ := hF1
    clear h1 h2 ho a0 a1 a2 a3 a4 f0 f1 f2 f3 f4
    go_wp2_with fail
    have m1 : ∀ x ∈ (l.split key).1.bs, x ∈ l.bs := fun x hx => (split_bs key l).mem_iff.1 (List.mem_append.2 (.inl hx))
    have m2 : ∀ x ∈ (l.split key).2.bs, x ∈ l.bs := fun x hx => (split_bs key l).mem_iff.1 (List.mem_append.2 (.inr hx))
    have hr1 : BrAt w1 r := BrAt.only HO.out r HR.out (fun x hx hl => HD.out.2.2.2.2 x hl hx)
    rw [HS.out]
    refine bodyPost_ret (v := .tuple #[.pointer (l.split key).1.pa, .pointer (some ⟨b, 0, none⟩)]) (by simp [results, Try.results42, go_sem]) rfl ⟨rfl, ?_, ?_, ?_⟩
    · exact BrAt.only (Only.set w1 b 3 _) _ H1.out.1 (fun x hx e => HD.out.1 (m1 b (by rw [← e]; exact hx)))
    · exact br_left HF1.out hr1 H1.out.2 (fun hx => HD.out.1 (m2 b hx)) HD.out.2.1
    · exact only_set HO.out (fun x hx => by simp [Bt.bs, hx]) (by simp [Bt.bs]) _ _

set_option maxHeartbeats 400000 in
theorem split_any (key : ByteArray) (t : Bt) : SplitSaid key t := by
  induction t with
  | nil =>
    intro w _ _
    show Calls _ _ #[.pointer none, .string key] w _
    go_enter Try.func42, Try.ntmps42
    go_wp2
    exact bodyPost_ret (v := .tuple #[.pointer none, .pointer none]) (by simp [results, Try.results42, go_sem]) rfl ⟨rfl, trivial, trivial, Only.refl _ _⟩
  | node b k v l r ihl ihr => exact split_node key b k v l r ihl ihr

/-- What joinBranches answers. -/
def JoinSaid (s t : Bt) : Prop := ∀ (w : World), BrAt w s → BrAt w t → s.bs.Nodup → t.bs.Nodup → (∀ x ∈ s.bs, x ∉ t.bs) →
    Calls Try.prog 18 #[.pointer s.pa, .pointer t.pa] w fun e w' => e = .returned (.pointer (Bt.join s t).pa) ∧ BrAt w' (Bt.join s t) ∧ Only (fun b => b ∈ s.bs ∨ b ∈ t.bs) w w'

set_option maxRecDepth 100000 in
set_option maxHeartbeats 2000000 in
theorem join_low (b : Nat) (k v : ByteArray) (l r : Bt) (b' : Nat) (k' v' : ByteArray) (l' r' : Bt) (hk : wt k' ≤ wt k) (ih : JoinSaid r (.node b' k' v' l' r')) : JoinSaid (.node b k v l r) (.node b' k' v' l' r') := by
  intro w hs ht ns nt hd
  have HD : Hid (b ∉ l.bs ∧ b ∉ r.bs ∧ l.bs.Nodup ∧ r.bs.Nodup ∧ ∀ x ∈ l.bs, x ∉ r.bs) := nodup_node ns
  have HX : Hid ((∀ x ∈ (Bt.node b k v l r).bs, x ∉ (Bt.node b' k' v' l' r').bs) ∧ (Bt.node b' k' v' l' r').bs.Nodup) := ⟨hd, nt⟩
  have HT : Hid (BrAt w (.node b' k' v' l' r')) := ht
  have HS : Hid (BrAt w (.node b k v l r)) := hs
  obtain ⟨⟨a0, a1, a2, a3, a4⟩, f0, f1, f2, f3, f4⟩ := hs.1
  obtain ⟨⟨c0, c1, c2, c3, c4⟩, g0, g1, g2, g3, g4⟩ := ht.1
  have HJ : Hid (Bt.join (.node b k v l r) (.node b' k' v' l' r') = .node b k v l (Bt.join r (.node b' k' v' l' r'))) := by show _ = _; rw [Bt.join, if_pos hk]
  obtain ⟨W, hW⟩ : ∃ W, W = wt k := ⟨_, rfl⟩
  obtain ⟨W', hW'⟩ : ∃ W, W = wt k' := ⟨_, rfl⟩
  rw [← hW] at a2
  rw [← hW'] at c2
  rw [← hW, ← hW'] at hk
  clear hs ht ns nt hd g0 g1 g2 g3 g4
  show Calls _ _ #[.pointer (some ⟨b, 0, none⟩), .pointer (some ⟨b', 0, none⟩)] w _
  go_enter Try.func18, Try.ntmps18
  go_wp2_with fail
  go_quiet (fail)
  go_wp2_with fail
  refine (ih (w.drewN nq) (HS.out.2.2.drewN nq) (HT.out.drewN nq) HD.out.2.2.2.1 HX.out.2 (fun x hx => HX.out.1 x (by simp [Bt.bs, hx]))).mono ?_
  rintro e w1 ⟨rfl, h1, ho'⟩
  have ho : Only _ w w1 := ((Only.refl _ w).drewN nq).trans ho'
  clear ho'
  have hb : ¬ (b ∈ r.bs ∨ b ∈ (Bt.node b' k' v' l' r').bs) := fun h => h.elim HD.out.2.1 (HX.out.1 b (by simp [Bt.bs]))
  have hF1 := HS.out.1.only ho hb
  have HF1 : Hid (F5 w1 b (.string k) (.string v) (.int .i64 (wt k)) (.pointer l.pa) (.pointer r.pa)) := hF1
  have HO : Hid (Only (fun x => x ∈ r.bs ∨ x ∈ (Bt.node b' k' v' l' r').bs) w w1) := ho
  have H1 : Hid (BrAt w1 (Bt.join r (.node b' k' v' l' r'))) := h1
  obtain ⟨⟨a0', a1', a2', a3', a4'⟩, f0', f1', f2', f3', f4'⟩ := hF1
  clear h1 ho a0 a1 a2 a3 a4 f0 f1 f2 f3 f4 c0 c1 c2 c3 c4
  go_wp2_with fail
  have hl1 : BrAt w1 l := BrAt.only HO.out l HS.out.2.1 (fun x hx h => h.elim (HD.out.2.2.2.2 x hx) (HX.out.1 x (by simp [Bt.bs, hx])))
  have mm : ∀ x ∈ (Bt.join r (.node b' k' v' l' r')).bs, x ∈ r.bs ∨ x ∈ (Bt.node b' k' v' l' r').bs := fun x hx => List.mem_append.1 ((join_bs _ _).mem_iff.1 hx)
  rw [HJ.out]
  refine bodyPost_ret (v := .pointer (some ⟨b, 0, none⟩)) (by simp [results, Try.results18, go_sem]) rfl ⟨rfl, ?_, ?_⟩
  · exact br_right HF1.out hl1 H1.out HD.out.1 (fun hx => hb (mm b hx))
  · exact only_set HO.out (fun x hx => hx.imp (fun h => by simp [Bt.bs, h]) id) (.inl (by simp [Bt.bs])) _ _

set_option maxRecDepth 100000 in
set_option maxHeartbeats 2000000 in
theorem join_high (b : Nat) (k v : ByteArray) (l r : Bt) (b' : Nat) (k' v' : ByteArray) (l' r' : Bt) (hk : ¬ wt k' ≤ wt k) (ih : JoinSaid (.node b k v l r) l') : JoinSaid (.node b k v l r) (.node b' k' v' l' r') := by
  intro w hs ht ns nt hd
  have HD : Hid (b' ∉ l'.bs ∧ b' ∉ r'.bs ∧ l'.bs.Nodup ∧ r'.bs.Nodup ∧ ∀ x ∈ l'.bs, x ∉ r'.bs) := nodup_node nt
  have HX : Hid ((∀ x ∈ (Bt.node b k v l r).bs, x ∉ (Bt.node b' k' v' l' r').bs) ∧ (Bt.node b k v l r).bs.Nodup) := ⟨hd, ns⟩
  have HT : Hid (BrAt w (.node b' k' v' l' r')) := ht
  have HS : Hid (BrAt w (.node b k v l r)) := hs
  obtain ⟨⟨a0, a1, a2, a3, a4⟩, f0, f1, f2, f3, f4⟩ := hs.1
  obtain ⟨⟨c0, c1, c2, c3, c4⟩, g0, g1, g2, g3, g4⟩ := ht.1
  have HJ : Hid (Bt.join (.node b k v l r) (.node b' k' v' l' r') = .node b' k' v' (Bt.join (.node b k v l r) l') r') := by show _ = _; rw [Bt.join, if_neg hk]
  obtain ⟨W, hW⟩ : ∃ W, W = wt k := ⟨_, rfl⟩
  obtain ⟨W', hW'⟩ : ∃ W, W = wt k' := ⟨_, rfl⟩
  rw [← hW] at a2
  rw [← hW'] at c2
  rw [← hW, ← hW'] at hk
  clear hs ht ns nt hd f0 f1 f2 f3 f4
  show Calls _ _ #[.pointer (some ⟨b, 0, none⟩), .pointer (some ⟨b', 0, none⟩)] w _
  go_enter Try.func18, Try.ntmps18
  go_wp2_with fail
  go_quiet (fail)
  go_wp2_with fail
  refine (ih (w.drewN nq) (HS.out.drewN nq) (HT.out.2.1.drewN nq) HX.out.2 HD.out.2.2.1 (fun x hx h => HX.out.1 x hx (by simp [Bt.bs, h]))).mono ?_
  rintro e w1 ⟨rfl, h1, ho'⟩
  have ho : Only _ w w1 := ((Only.refl _ w).drewN nq).trans ho'
  clear ho'
  have hb : ¬ (b' ∈ (Bt.node b k v l r).bs ∨ b' ∈ l'.bs) := fun h => h.elim (fun h => HX.out.1 b' h (by simp [Bt.bs])) HD.out.1
  have hF1 := HT.out.1.only ho hb
  have HF1 : Hid (F5 w1 b' (.string k') (.string v') (.int .i64 (wt k')) (.pointer l'.pa) (.pointer r'.pa)) := hF1
  have HO : Hid (Only (fun x => x ∈ (Bt.node b k v l r).bs ∨ x ∈ l'.bs) w w1) := ho
  have H1 : Hid (BrAt w1 (Bt.join (.node b k v l r) l')) := h1
  obtain ⟨⟨a0', a1', a2', a3', a4'⟩, f0', f1', f2', f3', f4'⟩ := hF1
  clear h1 ho a0 a1 a2 a3 a4 c0 c1 c2 c3 c4 g0 g1 g2 g3 g4
  go_wp2_with fail
  have hr1 : BrAt w1 r' := BrAt.only HO.out r' HT.out.2.2 (fun x hx h => h.elim (fun h => HX.out.1 x h (by simp [Bt.bs, hx])) (fun h => HD.out.2.2.2.2 x h hx))
  have mm : ∀ x ∈ (Bt.join (.node b k v l r) l').bs, x ∈ (Bt.node b k v l r).bs ∨ x ∈ l'.bs := fun x hx => List.mem_append.1 ((join_bs _ _).mem_iff.1 hx)
  rw [HJ.out]
  refine bodyPost_ret (v := .pointer (some ⟨b', 0, none⟩)) (by simp [results, Try.results18, go_sem]) rfl ⟨rfl, ?_, ?_⟩
  · exact br_left HF1.out hr1 H1.out (fun hx => hb (mm b' hx)) HD.out.2.1
  · exact only_set HO.out (fun x hx => hx.imp id (fun h => by simp [Bt.bs, h])) (.inr (by simp [Bt.bs])) _ _

set_option maxHeartbeats 400000 in
theorem join_any (s t : Bt) : JoinSaid s t := by
  refine join_ind (P := JoinSaid) ?_ ?_ (fun b k v l r b' k' v' l' r' h ih => join_low b k v l r b' k' v' l' r' h ih) (fun b k v l r b' k' v' l' r' h ih => join_high b k v l r b' k' v' l' r' h ih) s t
  · intro t w _ ht _ _ _
    rw [join_nil]
    show Calls _ _ #[.pointer none, .pointer t.pa] w _
    have HT : Hid (BrAt w t) := ht
    clear ht
    go_enter Try.func18, Try.ntmps18
    go_wp2
    exact bodyPost_ret (v := .pointer t.pa) (by simp [results, Try.results18, go_sem]) rfl ⟨rfl, HT.out, Only.refl _ _⟩
  · intro b k v l r w hs _ _ _ _
    rw [join_nil']
    show Calls _ _ #[.pointer (some ⟨b, 0, none⟩), .pointer none] w _
    have HT : Hid (BrAt w (.node b k v l r)) := hs
    clear hs
    go_enter Try.func18, Try.ntmps18
    go_wp2
    exact bodyPost_ret (v := .pointer (some ⟨b, 0, none⟩)) (by simp [results, Try.results18, go_sem]) rfl ⟨rfl, HT.out, Only.refl _ _⟩
end Go.Proofs.Ytnmbnebofbdmfaa
