/- Rows that grow by append, as data of a kind. No condition. -/
import Derived.Test.YtdlodeklheapgaaKd
import Derived.Maps.AppendAt
import Derived.Deep.Onto
namespace Go.Proofs.Ytdlodeklheapgaa
open Go.RowKit
set_option linter.unusedVariables false

/-- A row of one's own that is made by append: l, each of cells cs. -/
def OwnL {α : Type} (cs : α → List Value) (T : TypeId) (wd : Nat) (w : World) (B : Nat) (v : Value) (l : List α) : Prop := w.ownsRow B T wd v l.length (l.flatMap cs)

theorem OwnL.nil {α : Type} (cs : α → List Value) (T : TypeId) (wd : Nat) (w : World) (B : Nat) : OwnL cs T wd w B (.slice none 0 0) [] := World.ownsRow_nil _ _ _ _
theorem OwnL.form {α : Type} {cs : α → List Value} {T : TypeId} {wd : Nat} {w : World} {B : Nat} {v : Value} {l : List α} (h : OwnL cs T wd w B v l) : ∃ a c, v = .slice a l.length c ∧ l.length ≤ c := by
  rcases h.2 with ⟨e, e0⟩ | ⟨g, cap, cur, e, _, _, h1, _⟩
  · exact ⟨none, 0, by rw [e, e0], by omega⟩
  · exact ⟨_, cap, e, h1⟩
theorem OwnL.below {α : Type} {cs : α → List Value} {T : TypeId} {wd : Nat} {w w' : World} {B : Nat} {v : Value} {l : List α} (h : OwnL cs T wd w B v l) (hb : Below w.heap.size w w') : OwnL cs T wd w' B v l := by
  obtain ⟨h1, h2 | ⟨g, cap, cur, e, h3, h4, h5⟩⟩ := h
  · exact ⟨h1, .inl h2⟩
  · exact ⟨h1, .inr ⟨g, cap, cur, e, h3, by rw [hb.block g (Array.getElem?_eq_some_iff.1 h4).1]; exact h4, h5⟩⟩
theorem OwnL.kept {α : Type} {cs : α → List Value} {T : TypeId} {wd : Nat} {w w' : World} {B : Nat} {v : Value} {l : List α} {S : Nat → Prop} (h : OwnL cs T wd w B v l) (hb : KeptO S w w') (hS : ∀ k, B ≤ k → ¬ S k) : OwnL cs T wd w' B v l := by
  obtain ⟨h1, h2 | ⟨g, cap, cur, e, h3, h4, h5⟩⟩ := h
  · exact ⟨h1, .inl h2⟩
  · exact ⟨h1, .inr ⟨g, cap, cur, e, h3, by rw [hb.block g (Array.getElem?_eq_some_iff.1 h4).1 (hS g h3)]; exact h4, h5⟩⟩
theorem OwnL.mono {α : Type} {cs : α → List Value} {T : TypeId} {wd : Nat} {w : World} {B B' : Nat} {v : Value} {l : List α} (h : OwnL cs T wd w B v l) (hb : B' ≤ B) : OwnL cs T wd w B' v l := World.ownsRow.mono h hb

theorem flat_get {α : Type} {cs : α → List Value} {n : Nat} (hn : ∀ x, (cs x).length = n) : ∀ (l : List α) (i j : Nat) (x : α), l[i]? = some x → j < n → (l.flatMap cs)[i * n + j]? = (cs x)[j]?
  | [], i, j, x, h, _ => by simp at h
  | y :: t, 0, j, x, h, hj => by
    obtain rfl : y = x := by simpa using h
    rw [List.flatMap_cons, Nat.zero_mul, Nat.zero_add, List.getElem?_append_left (by rw [hn]; exact hj)]
  | y :: t, i + 1, j, x, h, hj => by
    have h' : t[i]? = some x := by simpa using h
    rw [List.flatMap_cons, List.getElem?_append_right (by rw [hn, Nat.add_mul]; omega), hn, show (i + 1) * n + j - n = i * n + j by rw [Nat.add_mul]; omega]
    exact flat_get hn t i j x h' hj

/-- A row that grew by append is data of its kind. -/
theorem own_kRow {α : Type} {K : Kd α} {cs : α → List Value} {T : TypeId} {w : World} {B : Nat} {a : Option Addr} {n c : Nat} {l : List α} (hw : ∀ x, (cs x).length = K.wd) (h : OwnL cs T K.wd w B (.slice a n c) l) (hl : l.length ≤ maxLen) (hk : ∀ x ∈ l, ∀ W S, K.is true W S (cs x) x) :
    (kRow K).is true w (fun k => B ≤ k) [.slice a n c] l := by
  have hcells := @World.ownsRow.cells _ _ _ _ _ _ _ h
  obtain ⟨a', c', e, hc⟩ := h.form
  obtain ⟨rfl, rfl, rfl⟩ : a = a' ∧ n = l.length ∧ c = c' := by simpa using e
  refine ⟨a, c, rfl, hl, fun _ => hc, ?_⟩
  obtain ⟨h1, ⟨e2, e0⟩ | ⟨g, cap, cur, e, h3, h4, h5⟩⟩ := h
  · exact .inl (List.eq_nil_of_length_eq_zero e0)
  · have ea : a = some ⟨g, 0, none⟩ := by injection e
    subst ea
    refine .inr ⟨g, 0, fun _ _ => False, fun i => (l[i]?.map cs).getD [], rfl, (Array.getElem?_eq_some_iff.1 h4).1, h3, fun i x hx => ?_, fun _ _ _ h => h.elim, fun _ => ⟨fun _ _ h => h, fun _ _ _ _ _ _ h => h.elim⟩⟩
    simp only [hx, Option.map_some, Option.getD_some]
    refine ⟨hk x (List.mem_of_getElem? hx) _ _, fun j v hj => ?_⟩
    have hjn : j < K.wd := by rw [← hw x]; exact (List.getElem?_eq_some_iff.1 hj).1
    have := hcells (g := g) rfl (i * K.wd + j) v (by rw [flat_get hw l i j x hx hjn]; exact hj)
    rw [show ((⟨g, 0, none⟩ : Addr).add (i * K.wd + j)) = ⟨g, 0 + i * K.wd + j, none⟩ by unfold Addr.add; split <;> simp_all] at this
    refine ⟨this, fun _ => ?_⟩
    simp [World.frozen?, h4]

/-- What an append leaves: nothing is written but the row's own block, and it stays or is new. -/
structure Grew (w w' : World) (v v' : Value) : Prop where
  size : w.heap.size ≤ w'.heap.size
  kept : KeptO (fun k => v.ownBlock = some k) w w'
  moved : v'.ownBlock = v.ownBlock ∨ v'.ownBlock = some w.heap.size
theorem Grew.trans {w w' w'' : World} {v v' v'' : Value} (h : Grew w w' v v') (k : Grew w' w'' v' v'') : KeptO (fun k => v.ownBlock = some k) w w'' ∧ (v''.ownBlock = v.ownBlock ∨ ∃ g, v''.ownBlock = some g ∧ w.heap.size ≤ g) := by
  refine ⟨⟨k.kept.os.trans h.kept.os, k.kept.tape.trans h.kept.tape, k.kept.output.trans h.kept.output, Nat.le_trans h.size k.size, fun i hi hn => ?_⟩, ?_⟩
  · rw [k.kept.block i (Nat.lt_of_lt_of_le hi h.size) ?_]
    · exact h.kept.block i hi hn
    · intro e
      rcases h.moved with h1 | h1
      · exact hn (h1 ▸ e)
      · rw [h1] at e
        injection e with e
        omega
  · have hz := h.size
    rcases k.moved with h1 | h1
    · rcases h.moved with h2 | h2
      · exact .inl (h1.trans h2)
      · exact .inr ⟨_, h1.trans h2, Nat.le_refl _⟩
    · exact .inr ⟨_, h1, hz⟩

/-- append(s, x): the one put behind. -/
theorem wpList_app1 {α : Type} (cs : α → List Value) {w : World} {ops : Array Oper} {rest : List Oper} {o : Oper} {a : Act} {Q : Exit → Act → World → Prop} (hgd : o.guard = none) (s x : Operand) (t : TypeId)
    (ho : o.op = .call { callee := .builtin .append, args := #[s, x], argTypes := #[t, t] })
    (B : Nat) (e : TypeId) (i : TypeInfo) (z : Value) (wd bytes : Nat) (ht : Try.prog.underlying t = some (.slice e)) (hi : Try.prog.info? e = some i) (hz : i.zero = some z)
    (hsize : i.size = wd) (hby : i.bytes = bytes) (hzs : z.cells.size = wd) (hsz : 0 < wd) (hb64 : bytes ≤ 256)
    (v : Value) (l : List α) (hs : a.eval s = v) (hown : OwnL cs e wd w B v l) (b : Nat) (y : α) (hx : a.eval x = .slice (some ⟨b, 0, none⟩) 1 1)
    (hlen : (cs y).length = wd) (h1 : ∀ u ∈ cs y, u.oneCell' = true) (hc : ∀ j u, (cs y)[j]? = some u → w.cell? ⟨b, j, none⟩ = some u)
    (hL : l.length < 2 ^ 30) (hbase : B ≤ w.heap.size)
    (h : ∀ v' w', OwnL cs e wd w' B v' (l ++ [y]) → Below B w w' → Grew w w' v v' → wpList Try.prog ops Q rest (a.put o.dst v') w') : wpList Try.prog ops Q (o :: rest) a w := by
  have hbm : (l.length + 1) * bytes ≤ 140737488355328 := by
    have := Nat.mul_le_mul (show l.length + 1 ≤ 2 ^ 30 by omega) hb64
    omega
  refine wpList_append_own_at w hgd s x t ho B e i z wd bytes ht hi hz hsize hby hzs hsz v l.length (l.flatMap cs) hs hown ⟨b, 0, none⟩ 1 1 (cs y) hx (by rw [hlen, Nat.one_mul]) (fun j u hu => ?_) h1 (by unfold maxLen; omega) hbm hbase fun v' w' h2 h3 _ h5 => h v' w' ?_ ?_ ⟨h3.size, ⟨h3.os, h3.tape, h3.output, h3.size, fun k hk hn => h3.block k hk (fun e => hn e.symm)⟩, h5⟩
  · rw [show ((⟨b, 0, none⟩ : Addr).add j) = ⟨b, j, none⟩ by unfold Addr.add; split <;> simp_all]
    exact hc j u hu
  · unfold OwnL
    rw [List.length_append, List.flatMap_append]
    simpa using h2
  · exact ⟨h3.os, h3.tape, h3.output, h3.size, fun k hk => h3.block k (by omega) (fun e => by have := (World.ownsRow.lt hown k e.symm).1; omega)⟩

theorem infoStrA : (Try.prog.info? 9).map (fun i => (i.zero, i.size, i.bytes)) = some (some (.string ⟨#[]⟩), 1, 16) := by kernel_rfl
/-- append(out, s) of texts. -/
theorem app_str {w : World} {ops : Array Oper} {rest : List Oper} {o : Oper} {a : Act} {Q : Exit → Act → World → Prop} (hgd : o.guard = none) (s x : Operand)
    (ho : o.op = .call { callee := .builtin .append, args := #[s, x], argTypes := #[37, 37] })
    (B : Nat) (v : Value) (l : List ByteArray) (hs : a.eval s = v) (hown : OwnL (fun y => [.string y]) 9 1 w B v l) (b : Nat) (y : ByteArray) (hx : a.eval x = .slice (some ⟨b, 0, none⟩) 1 1) (hc : w.cell? ⟨b, 0, none⟩ = some (.string y))
    (hL : l.length < 2 ^ 30) (hbase : B ≤ w.heap.size)
    (h : ∀ v' w', OwnL (fun y => [.string y]) 9 1 w' B v' (l ++ [y]) → Below B w w' → Grew w w' v v' → wpList Try.prog ops Q rest (a.put o.dst v') w') : wpList Try.prog ops Q (o :: rest) a w := by
  obtain ⟨i0, hi, hz0, hz1, hz2⟩ := info_parts infoStrA
  exact wpList_app1 (fun y => [.string y]) hgd s x 37 ho B 9 i0 _ 1 16 Try.underlying37 hi hz0 hz1 hz2 rfl (by decide) (by decide) v l hs hown b y hx rfl (fun u hu => by simp at hu; rw [hu]; rfl) (fun j u hj => by
    match j, hj with
    | 0, hj => obtain rfl : Value.string y = u := by simpa using hj
               exact hc) hL hbase h
theorem infoIntA : (Try.prog.info? 3).map (fun i => (i.zero, i.size, i.bytes)) = some (some (.int .i64 0), 1, 8) := by kernel_rfl
/-- append(out, n) of whole numbers. -/
theorem app_int {w : World} {ops : Array Oper} {rest : List Oper} {o : Oper} {a : Act} {Q : Exit → Act → World → Prop} (hgd : o.guard = none) (s x : Operand)
    (ho : o.op = .call { callee := .builtin .append, args := #[s, x], argTypes := #[79, 79] })
    (B : Nat) (v : Value) (l : List Int) (hs : a.eval s = v) (hown : OwnL (fun y => [.int .i64 y]) 3 1 w B v l) (b : Nat) (y : Int) (hx : a.eval x = .slice (some ⟨b, 0, none⟩) 1 1) (hc : w.cell? ⟨b, 0, none⟩ = some (.int .i64 y))
    (hL : l.length < 2 ^ 30) (hbase : B ≤ w.heap.size)
    (h : ∀ v' w', OwnL (fun y => [.int .i64 y]) 3 1 w' B v' (l ++ [y]) → Below B w w' → Grew w w' v v' → wpList Try.prog ops Q rest (a.put o.dst v') w') : wpList Try.prog ops Q (o :: rest) a w := by
  obtain ⟨i0, hi, hz0, hz1, hz2⟩ := info_parts infoIntA
  exact wpList_app1 (fun y => [.int .i64 y]) hgd s x 79 ho B 3 i0 _ 1 8 Try.underlying79 hi hz0 hz1 hz2 rfl (by decide) (by decide) v l hs hown b y hx rfl (fun u hu => by simp at hu; rw [hu]; rfl) (fun j u hj => by
    match j, hj with
    | 0, hj => obtain rfl : Value.int .i64 y = u := by simpa using hj
               exact hc) hL hbase h
theorem infoByteA : (Try.prog.info? 5).map (fun i => (i.zero, i.size, i.bytes)) = some (some (.int .u8 0), 1, 1) := by kernel_rfl
/-- append(out, c) of bytes. -/
theorem app_byte {w : World} {ops : Array Oper} {rest : List Oper} {o : Oper} {a : Act} {Q : Exit → Act → World → Prop} (hgd : o.guard = none) (s x : Operand)
    (ho : o.op = .call { callee := .builtin .append, args := #[s, x], argTypes := #[22, 22] })
    (B : Nat) (v : Value) (l : List Int) (hs : a.eval s = v) (hown : OwnL (fun y => [.int .u8 y]) 5 1 w B v l) (b : Nat) (y : Int) (hx : a.eval x = .slice (some ⟨b, 0, none⟩) 1 1) (hc : w.cell? ⟨b, 0, none⟩ = some (.int .u8 y))
    (hL : l.length < 2 ^ 30) (hbase : B ≤ w.heap.size)
    (h : ∀ v' w', OwnL (fun y => [.int .u8 y]) 5 1 w' B v' (l ++ [y]) → Below B w w' → Grew w w' v v' → wpList Try.prog ops Q rest (a.put o.dst v') w') : wpList Try.prog ops Q (o :: rest) a w := by
  obtain ⟨i0, hi, hz0, hz1, hz2⟩ := info_parts infoByteA
  exact wpList_app1 (fun y => [.int .u8 y]) hgd s x 22 ho B 5 i0 _ 1 1 Try.underlying22 hi hz0 hz1 hz2 rfl (by decide) (by decide) v l hs hown b y hx rfl (fun u hu => by simp at hu; rw [hu]; rfl) (fun j u hj => by
    match j, hj with
    | 0, hj => obtain rfl : Value.int .u8 y = u := by simpa using hj
               exact hc) hL hbase h
/-- string(bytes). -/
theorem conv_own {w : World} {B : Nat} {a : Option Addr} {n c : Nat} {l : List Int} (h : OwnL (fun y => [.int .u8 y]) 5 1 w B (.slice a n c) l) : (convert 22 9 (.slice a n c)).run Try.prog w = .ok (.string (strOfNums l)) w := by
  have hcells := @World.ownsRow.cells _ _ _ _ _ _ _ h
  obtain ⟨a', c', e, hc⟩ := h.form
  obtain ⟨rfl, rfl, rfl⟩ : a = a' ∧ n = l.length ∧ c = c' := by simpa using e
  obtain ⟨h1, ⟨e2, e0⟩ | ⟨g, cap, cur, e, h3, h4, h5⟩⟩ := h
  · have : l = [] := List.eq_nil_of_length_eq_zero e0
    subst this
    cases e2
    exact run_convert_bytes_nil _ 22 5 Try.underlying22 Try.underlying5 0 0 9 Try.underlying9
  · have ea : a = some ⟨g, 0, none⟩ := by injection e
    subst ea
    exact run_convert_bytes_arg _ 22 5 Try.underlying22 Try.underlying5 _ 0 _ _ l rfl (fun i hi => by
      have := hcells (g := g) rfl i (.int .u8 l[i]) (by
        have h2 := flat_get (cs := fun y => [Value.int .u8 y]) (n := 1) (fun _ => rfl) l i 0 l[i] (List.getElem?_eq_getElem hi) (by decide)
        simpa using h2)
      rw [show ((⟨g, 0, none⟩ : Addr).add i) = ⟨g, 0 + i, none⟩ by unfold Addr.add; split <;> simp_all] at this
      simpa [List.getElem?_eq_getElem hi] using this) 9 Try.underlying9
end Go.Proofs.Ytdlodeklheapgaa
