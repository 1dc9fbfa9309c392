/- A tree with one part more: the specification's l1Put. -/
import Derived.Test.YtbjifclgifkjmaaDoorL3CutM0
namespace Go.Proofs.YtbjifclgifkjmaaDoor
open Go.RowKit
set_option linter.unusedVariables false

theorem add_none (b o j : Nat) : ((⟨b, o, none⟩ : Addr).add j) = ⟨b, o + j, none⟩ := by unfold Addr.add; split <;> simp_all
/-- Cells that are put to an own row: none at all, or cells that lie somewhere. -/
def PartF (w : World) (ax : Option Addr) (m c size : Nat) (news : List Value) : Prop :=
  news.length = m * size ∧ (∀ u ∈ news, u.oneCell' = true) ∧ ((m = 0 ∧ ax = none ∧ c = 0) ∨ ∃ ad, ax = some ad ∧ ∀ j u, news[j]? = some u → w.cell? (ad.add j) = some u)

/-- AT A STEP OF A REGION THAT DRAWS: a part is put to an own row. -/
theorem step_append_part {w : World} {ops : Array Oper} {o : Oper} {a : Act} {K : Act → World → Prop} {Q : Exit → Act → World → Prop} {E : Prop} (hgd : o.guard = none) (s x : Operand) (t : TypeId)
    (ho : o.op = .call { callee := .builtin .append, args := #[s, x], argTypes := #[t, t] })
    (base : Nat) (e : TypeId) (i : TypeInfo) (z : Value) (size bytes : Nat) (ht : Tryd.prog.underlying t = some (.slice e)) (hi : Tryd.prog.info? e = some i) (hz : i.zero = some z)
    (hsize : i.size = size) (hby : i.bytes = bytes) (hzs : z.cells.size = size) (hsz : 0 < size)
    (v : Value) (n : Nat) (xs : List Value) (hs : a.eval s = v) (hown : w.ownsRow base e size v n xs)
    (ax : Option Addr) (m c : Nat) (news : List Value) (hx : a.eval x = .slice ax m c) (hp : PartF w ax m c size news)
    (h63 : n + m ≤ maxLen) (hbytes : (n + m) * bytes ≤ 140737488355328) (hbase : base ≤ w.heap.size)
    (h : ∀ v' w', w'.ownsRow base e size v' (n + m) (xs ++ news) → w.grownBy w' v.ownBlock → K (a.put o.dst v') w') :
    if Region.wanted o (yielded ops a.tmps) = true then Oper.wp Tryd.prog o a w K Q else E := by
  obtain ⟨hl, h1, ⟨rfl, rfl, rfl⟩ | ⟨ad, rfl, hc⟩⟩ := hp
  · have hw : Region.wanted o (yielded ops a.tmps) = true := by simp [Region.wanted, hgd]
    rw [if_pos hw]
    obtain rfl : news = [] := List.eq_nil_of_length_eq_zero (by simpa using hl)
    subst hsize
    have hr := run_append_owned_none (P := Tryd.prog) (w := w) base t o.type e i i.size ht hi v n xs hown
    unfold Oper.wp execOp
    simp only [ho, resolve, invoke, builtin, Sem.run_bind, Sem.run_pure, Result.andThen_ok, List.map_toArray, List.map_cons, List.map_nil, hs, hx, hr]
    exact h v w (by simpa using hown) ⟨rfl, rfl, rfl, Nat.le_refl _, fun _ _ _ => rfl⟩
  · exact step_append_at hgd s x t ho base e i z size bytes ht hi hz hsize hby hzs hsz v n xs hs hown (some ad) ad m c news hx rfl hl hc h1 h63 hbytes hbase h

def leB (a b : ByteArray) : Bool := Op.bytesLess a.toList b.toList || a.toList == b.toList
/-- Where a name is put: behind all that are no greater. -/
def putPos : List ByteArray → ByteArray → Nat
  | [], _ => 0
  | x :: l, name => if leB x name then putPos l name + 1 else 0
theorem putPos_le (l : List ByteArray) (name : ByteArray) : putPos l name ≤ l.length := by
  induction l with
  | nil => exact Nat.le_refl _
  | cons x l ih =>
    rw [putPos]
    split
    · rw [List.length_cons]; omega
    · omega
theorem putPos_at {l : List ByteArray} {name : ByteArray} {p : Nat} (h : ∀ i x, i < p → l[i]? = some x → leB x name = true) (hp : p ≤ l.length) (he : ∀ x, l[p]? = some x → leB x name = false) : putPos l name = p := by
  induction l generalizing p with
  | nil => simp at hp; rw [hp]; rfl
  | cons y l ih =>
    rw [putPos]
    cases p with
    | zero =>
      rw [he y (by simp)]
      simp
    | succ p =>
      rw [h 0 y (by omega) (by simp), if_pos rfl, ih (p := p) (fun i x hi hx => h (i + 1) x (by omega) (by simpa using hx)) (by simpa using hp) (fun x hx => he x (by simpa using hx))]

def putAt : Tr → ByteArray → Nat
  | .mk k _ _ nm ks, name => if k = 7 then putPos nm name else ks.length
/-- A tree with one part more. -/
def putK : Tr → ByteArray → Tr → Tr
  | .mk k n tx nm ks, name, x => .mk k 0 ⟨#[]⟩ (if k = 7 then nm.take (putAt (.mk k n tx nm ks) name) ++ name :: nm.drop (putAt (.mk k n tx nm ks) name) else []) (ks.take (putAt (.mk k n tx nm ks) name) ++ x :: ks.drop (putAt (.mk k n tx nm ks) name))

/-- What lies in memory while the parts are put together. -/
def PutSt (w wx : World) (V X : Five) (kv nv : Value) (a2 : Option Addr) (c2 : Nat) (l : List Five) : Prop :=
  FiveAt wx w.heap.size V.a V.b V.c V.d V.e ∧ FiveAt wx (w.heap.size + 1) X.a X.b X.c X.d X.e ∧ FiveAt wx (w.heap.size + 1 + 1) (.int .i64 0) (.int .i64 0) (.string ⟨#[]⟩) (.slice none 0 0) (.slice none 0 0) ∧
  FiveAt wx (w.heap.size + 1 + 1 + 1) kv (.int .i64 0) (.string ⟨#[]⟩) nv (.slice a2 l.length c2) ∧ wx.ownsRow (w.heap.size + 4) 41 5 (.slice a2 l.length c2) l.length (fiveCells l) ∧ w.heap.size + 4 ≤ wx.heap.size ∧ Below w.heap.size w wx
theorem five_append (l m : List Five) : fiveCells l ++ fiveCells m = fiveCells (l ++ m) := by simp [fiveCells]
/-- Parts are put to the row, and the row into its place. -/
theorem put_grow {w wx wy w' : World} {V X : Five} {kv nv : Value} {a2 : Option Addr} {c2 m : Nat} {l l' : List Five} {v' : Value} (h : PutSt w wx V X kv nv a2 c2 l) (hy : Below wx.heap.size wx wy) (hg : wy.grownBy w' (Value.slice a2 l.length c2).ownBlock)
    (ho : w'.ownsRow (w.heap.size + 4) 41 5 v' (l.length + m) (fiveCells l ++ fiveCells l')) (hm : l'.length = m) : ∃ (a3 : Option Addr) (c3 : Nat) (L : List Five), v' = .slice a3 L.length c3 ∧ Hid (L = l ++ l') ∧ Hid (PutSt w (w'.setCell ⟨w.heap.size + 1 + 1 + 1, 4, none⟩ (.slice a3 L.length c3)) V X kv nv a3 c3 L) := by
  obtain ⟨h0, h1, h2, h3, h4, h5, h6⟩ := h
  rw [five_append] at ho
  have hlen : l.length + m = (l ++ l').length := by rw [List.length_append, hm]
  rw [hlen] at ho
  obtain ⟨a3, c3, rfl⟩ := row_form ho
  refine ⟨a3, c3, l ++ l', rfl, rfl, ?_⟩
  have zy := hy.size
  have zg := hg.size
  have hne : ∀ b, b < w.heap.size + 4 → some b ≠ (Value.slice a2 l.length c2).ownBlock := fun b hb e => by have := own_lt h4 e; omega
  have gr : ∀ {b : Nat} {x0 x1 x2 x3 x4 : Value}, b < w.heap.size + 4 → FiveAt wx b x0 x1 x2 x3 x4 → FiveAt w' b x0 x1 x2 x3 x4 := fun hb hf => (hf.below hy (by omega)).grown hg (by omega) (hne _ hb)
  have bt : ∀ {b : Nat} {x0 x1 x2 x3 x4 : Value}, b < w.heap.size + 4 → b ≠ w.heap.size + 1 + 1 + 1 → FiveAt wx b x0 x1 x2 x3 x4 → FiveAt (w'.setCell ⟨w.heap.size + 1 + 1 + 1, 4, none⟩ (.slice a3 (l ++ l').length c3)) b x0 x1 x2 x3 x4 := fun hb hn hf => (gr hb hf).but (BelowBut.setCell (B := w'.heap.size) w' _ _) (by omega) hn
  refine ⟨bt (by omega) (by omega) h0, bt (by omega) (by omega) h1, bt (by omega) (by omega) h2, (gr (by omega) h3).set4 _, row_block ho (fun b hb _ _ => Below.heap_setCell _ _ _ _ (by show b ≠ w.heap.size + 1 + 1 + 1; omega)), by simp [World.setCell]; omega, ?_⟩
  have hB : Below w.heap.size w w' := ⟨hg.os.trans (hy.os.trans h6.os), hg.tape.trans (hy.tape.trans h6.tape), hg.output.trans (hy.output.trans h6.output), by have := h6.size; omega, fun b hb => (hg.block b (by omega) (hne b (by omega))).trans ((hy.block b (by omega)).trans (h6.block b hb))⟩
  exact hB.setCell (p := ⟨w.heap.size + 1 + 1 + 1, 4, none⟩) (by show w.heap.size ≤ w.heap.size + 1 + 1 + 1; omega) _

theorem put_cell {w wx wy w' : World} {V X : Five} {kv nv : Value} {a2 : Option Addr} {c2 : Nat} {l : List Five} (h : PutSt w wx V X kv nv a2 c2 l) (hy : Below wx.heap.size wx wy) (hg : wy.grownBy w' (Value.slice a2 l.length c2).ownBlock) :
    w'.cell? ⟨w.heap.size + 1 + 1 + 1, 4, none⟩ = some (.slice a2 l.length c2) ∧ w'.frozen? ⟨w.heap.size + 1 + 1 + 1, 4, none⟩ = false := by
  obtain ⟨h0, h1, h2, h3, h4, h5, h6⟩ := h
  have zy := hy.size
  have := (h3.below hy (by omega)).grown hg (by omega) (fun e => by have := own_lt h4 e; omega)
  exact ⟨this.1.2.2.2.2, this.2.2.2.2.2⟩

/-- What lies in memory while the names are put together; wb: as it was when the parts were done. -/
def PutN (w wb wx : World) (V : Five) (kv kvs : Value) (a1 : Option Addr) (c1 : Nat) (nms : List ByteArray) : Prop :=
  FiveAt wx w.heap.size V.a V.b V.c V.d V.e ∧ FiveAt wx (w.heap.size + 1 + 1) (.int .i64 0) (.int .i64 0) (.string ⟨#[]⟩) (.slice none 0 0) (.slice none 0 0) ∧
  FiveAt wx (w.heap.size + 1 + 1 + 1) kv (.int .i64 0) (.string ⟨#[]⟩) (.slice a1 nms.length c1) kvs ∧ wx.ownsRow wb.heap.size 9 1 (.slice a1 nms.length c1) nms.length (nms.map Value.string) ∧
  (∀ b, b < wb.heap.size → b ≠ w.heap.size + 1 + 1 + 1 → wx.heap[b]? = wb.heap[b]?) ∧ wb.heap.size ≤ wx.heap.size ∧ w.heap.size + 4 ≤ wb.heap.size ∧ Below w.heap.size w wx
theorem PutSt.names {w wx : World} {V X : Five} {kv : Value} {a2 : Option Addr} {c2 : Nat} {l : List Five} (h : PutSt w wx V X kv (.slice none 0 0) a2 c2 l) : PutN w wx wx V kv (.slice a2 l.length c2) none 0 [] := by
  obtain ⟨h0, h1, h2, h3, h4, h5, h6⟩ := h
  exact ⟨h0, h2, h3, World.ownsRow_nil _ _ _ _, fun _ _ _ => rfl, Nat.le_refl _, h5, h6⟩
theorem putN_cell {w wb wx wy w' : World} {V : Five} {kv kvs : Value} {a1 : Option Addr} {c1 : Nat} {nms : List ByteArray} (h : PutN w wb wx V kv kvs a1 c1 nms) (hy : Below wx.heap.size wx wy) (hg : wy.grownBy w' (Value.slice a1 nms.length c1).ownBlock) :
    w'.cell? ⟨w.heap.size + 1 + 1 + 1, 3, none⟩ = some (.slice a1 nms.length c1) ∧ w'.frozen? ⟨w.heap.size + 1 + 1 + 1, 3, none⟩ = false := by
  obtain ⟨h0, h2, h3, h4, h5, h6, h7, h8⟩ := h
  have zy := hy.size
  have := (h3.below hy (by omega)).grown hg (by omega) (fun e => by have := own_lt h4 e; omega)
  exact ⟨this.1.2.2.2.1, this.2.2.2.2.1⟩
theorem putN_grow {w wb wx wy w' : World} {V : Five} {kv kvs : Value} {a1 : Option Addr} {c1 m : Nat} {nms l' : List ByteArray} {v' : Value} (h : PutN w wb wx V kv kvs a1 c1 nms) (hy : Below wx.heap.size wx wy) (hg : wy.grownBy w' (Value.slice a1 nms.length c1).ownBlock)
    (ho : w'.ownsRow wb.heap.size 9 1 v' (nms.length + m) (nms.map Value.string ++ l'.map Value.string)) (hm : l'.length = m) : ∃ (a3 : Option Addr) (c3 : Nat) (L : List ByteArray), v' = .slice a3 L.length c3 ∧ Hid (L = nms ++ l') ∧ Hid (PutN w wb (w'.setCell ⟨w.heap.size + 1 + 1 + 1, 3, none⟩ (.slice a3 L.length c3)) V kv kvs a3 c3 L) := by
  obtain ⟨h0, h2, h3, h4, h5, h6, h7, h8⟩ := h
  rw [← List.map_append] at ho
  have hlen : nms.length + m = (nms ++ l').length := by rw [List.length_append, hm]
  rw [hlen] at ho
  obtain ⟨a3, c3, rfl⟩ := row_form ho
  refine ⟨a3, c3, nms ++ l', rfl, rfl, ?_⟩
  have zy := hy.size
  have zg := hg.size
  have hne : ∀ b, b < wb.heap.size → some b ≠ (Value.slice a1 nms.length c1).ownBlock := fun b hb e => by have := own_lt h4 e; omega
  have gr : ∀ {b : Nat} {x0 x1 x2 x3 x4 : Value}, b < w.heap.size + 4 → FiveAt wx b x0 x1 x2 x3 x4 → FiveAt w' b x0 x1 x2 x3 x4 := fun hb hf => (hf.below hy (by omega)).grown hg (by omega) (hne _ (by omega))
  have bt : ∀ {b : Nat} {x0 x1 x2 x3 x4 : Value}, b < w.heap.size + 4 → b ≠ w.heap.size + 1 + 1 + 1 → FiveAt wx b x0 x1 x2 x3 x4 → FiveAt (w'.setCell ⟨w.heap.size + 1 + 1 + 1, 3, none⟩ (.slice a3 (nms ++ l').length c3)) b x0 x1 x2 x3 x4 := fun hb hn hf => (gr hb hf).but (BelowBut.setCell (B := w'.heap.size) w' _ _) (by omega) hn
  have hbl : ∀ b, b < wb.heap.size → w'.heap[b]? = wx.heap[b]? := fun b hb => (hg.block b (by omega) (hne b hb)).trans (hy.block b (by omega))
  refine ⟨bt (by omega) (by omega) h0, bt (by omega) (by omega) h2, (gr (by omega) h3).set3 _, row_block ho (fun b hb _ _ => Below.heap_setCell _ _ _ _ (by show b ≠ w.heap.size + 1 + 1 + 1; omega)), fun b hb hn => (Below.heap_setCell _ _ _ _ hn).trans ((hbl b hb).trans (h5 b hb hn)), by simp [World.setCell]; omega, h7, ?_⟩
  have hB : Below w.heap.size w w' := ⟨hg.os.trans (hy.os.trans h8.os), hg.tape.trans (hy.tape.trans h8.tape), hg.output.trans (hy.output.trans h8.output), by have := h8.size; omega, fun b hb => (hbl b (by omega)).trans (h8.block b hb)⟩
  exact hB.setCell (p := ⟨w.heap.size + 1 + 1 + 1, 3, none⟩) (by show w.heap.size ≤ w.heap.size + 1 + 1 + 1; omega) _

/-- What is told: the tree, in the world in which the head has been copied. -/
theorem put_done {w wb wx : World} {S : Nat → Prop} {V X : Five} {k : Int} {nv0 : Value} {a1 a2 : Option Addr} {c1 c2 : Nat} {nms : List ByteArray} {L : List Five} {ts : List Tr} (hb : PutSt w wb V X (.int .i64 k) nv0 a2 c2 L) (h : PutN w wb wx V (.int .i64 k) (.slice a2 L.length c2) a1 c1 nms) (hL : L.length = ts.length) (hT : ∀ (i : Nat) (y : Tr) (f : Five), ts[i]? = some y → L[i]? = some f → TreeIs w S y f.agg) :
    ∀ W5, W5 = (((((wx.setCell ⟨w.heap.size + 1 + 1, 0, none⟩ (.int .i64 k)).setCell ⟨w.heap.size + 1 + 1, 1, none⟩ (.int .i64 0)).setCell ⟨w.heap.size + 1 + 1, 2, none⟩ (.string ⟨#[]⟩)).setCell ⟨w.heap.size + 1 + 1, 3, none⟩ (.slice a1 nms.length c1)).setCell ⟨w.heap.size + 1 + 1, 4, none⟩ (.slice a2 L.length c2)) →
      FiveAt W5 (w.heap.size + 1 + 1) (.int .i64 k) (.int .i64 0) (.string ⟨#[]⟩) (.slice a1 nms.length c1) (.slice a2 L.length c2) ∧ TreeIs W5 (fun b => S b ∨ w.heap.size ≤ b) (.mk k 0 ⟨#[]⟩ nms ts) (.agg #[.int .i64 k, .int .i64 0, .string ⟨#[]⟩, .slice a1 nms.length c1, .slice a2 L.length c2]) ∧ Below w.heap.size w W5 := by
  intro W5 hW5
  obtain ⟨_, _, _, _, hrow, _, _⟩ := hb
  obtain ⟨h0, h2, h3, h4, h5, h6, h7, h8⟩ := h
  have HQ := h2.set (.int .i64 k) (.int .i64 0) (.string ⟨#[]⟩) (.slice a1 nms.length c1) (.slice a2 L.length c2)
  rw [← hW5] at HQ
  obtain ⟨hF, hbb⟩ := HQ
  have hblk : ∀ b, b < wx.heap.size → b ≠ w.heap.size + 1 + 1 → W5.heap[b]? = wx.heap[b]? := fun b h1 h2 => (hbb wx.heap.size).block b h1 h2
  have HBF : Below w.heap.size w W5 := h8.trans ((hbb w.heap.size).below (Nat.le_refl _) (by omega))
  refine ⟨hF, ?_, HBF⟩
  have r1 : W5.ownsRow (w.heap.size + 4) 41 5 (.slice a2 L.length c2) L.length (fiveCells L) := row_block hrow (fun b hb hlt _ => (hblk b (by omega) (by omega)).trans (h5 b hlt (by omega)))
  rw [hL] at r1 ⊢
  have r2 : NamsAt W5 (fun b => S b ∨ w.heap.size ≤ b) a1 nms := nams_own (row_block h4 (fun b hb hlt _ => hblk b hlt (by omega))) rfl (fun b hb => .inr (by omega))
  exact tree_own (l := L) r1 (fun b hb => .inr (by omega)) r2 hL (fun i y f hy hf => TreeIs.keep (fun b _ hb => HBF.block b hb) (fun _ h _ => .inl h) HBF.size _ _ (hT i y f hy hf)) (own_cap h4) (own_pn h4)

end Go.Proofs.YtbjifclgifkjmaaDoor
