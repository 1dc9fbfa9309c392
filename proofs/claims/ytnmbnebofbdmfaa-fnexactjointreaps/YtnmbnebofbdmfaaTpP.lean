/- The pairs below a limb, by the specification: l7Pairs. -/
import Derived.Test.YtnmbnebofbdmfaaTpS
import Derived.Laws.OwnMore
namespace Go.Proofs.Ytnmbnebofbdmfaa
open Go.RowKit
set_option linter.unusedVariables false

/-- The pairs below a limb, at most so deep; none where numbers are not as they should be. -/
def prsM (N : Nat → Lb) (n : Nat) : Nat → Int → Option (List Pr)
  | 0, k => if k = -1 then some [] else none
  | f + 1, k => if k = -1 then some [] else if k < 0 ∨ (n : Int) ≤ k then none else
      if ((N k.toNat).left ≠ -1 ∧ (N k.toNat).left ≤ k) ∨ ((N k.toNat).right ≠ -1 ∧ (N k.toNat).right ≤ k) then none else
      match prsM N n f (N k.toNat).left, prsM N n f (N k.toNat).right with
      | some a, some b => if 60 ≤ a.length + b.length then none else some (a ++ ((N k.toNat).key, (N k.toNat).val) :: b)
      | _, _ => none
theorem prsM_len (N : Nat → Lb) (n : Nat) : ∀ f k l, prsM N n f k = some l → l.length ≤ 60
  | 0, k, l, h => by
    rw [prsM] at h
    split at h
    · cases h; simp
    · cases h
  | f + 1, k, l, h => by
    rw [prsM] at h
    split at h
    · cases h; simp
    · split at h
      · cases h
      · split at h
        · cases h
        · split at h
          · split at h
            · cases h
            · cases h
              simp
              omega
          · cases h

/-- The cells of pairs in a row. -/
def prCells (l : List Pr) : List Value := l.flatMap fun x => [.string x.1, .string x.2]
theorem pr_app (l m : List Pr) : prCells (l ++ m) = prCells l ++ prCells m := by simp [prCells]
theorem pr_len (l : List Pr) : (prCells l).length = l.length * 2 := by
  induction l with
  | nil => rfl
  | cons x l ih => rw [show prCells (x :: l) = [.string x.1, .string x.2] ++ prCells l from rfl, List.length_append, ih]; simp; omega
theorem pr_get (l : List Pr) (i : Nat) (x : Pr) (h : l[i]? = some x) : (prCells l)[i * 2]? = some (.string x.1) ∧ (prCells l)[i * 2 + 1]? = some (.string x.2) := by
  induction l generalizing i with
  | nil => simp at h
  | cons y l ih =>
    rw [show prCells (y :: l) = [.string y.1, .string y.2] ++ prCells l from rfl]
    cases i with
    | zero => simp at h; subst h; simp
    | succ i =>
      have := ih i (by simpa using h)
      refine ⟨?_, ?_⟩
      all_goals rw [List.getElem?_append_right (by simp; omega)]
      · rw [show (i + 1) * 2 - [Value.string y.1, .string y.2].length = i * 2 by simp; omega]; exact this.1
      · rw [show (i + 1) * 2 + 1 - [Value.string y.1, .string y.2].length = i * 2 + 1 by simp; omega]; exact this.2
theorem pr_one (l : List Pr) : ∀ u ∈ prCells l, u.oneCell' = true := by
  intro u hu
  simp [prCells] at hu
  obtain ⟨a, b, _, rfl | rfl⟩ := hu <;> rfl
theorem infoPr : (Try.prog.info? 40).map (fun i => (i.zero, i.size, i.bytes)) = some (some (.agg #[.string ⟨#[]⟩, .string ⟨#[]⟩]), 2, 32) := by kernel_rfl
def OwnsP (w : World) (B : Nat) (v : Value) (l : List Pr) : Prop := w.ownsRow B 40 2 v l.length (prCells l)
theorem OwnsP.form {w : World} {B : Nat} {v : Value} {l : List Pr} (h : OwnsP w B v l) : ∃ a c, v = .slice a l.length c := by
  rcases h.2 with ⟨rfl, e⟩ | ⟨g, cap, cur, rfl, _⟩
  · exact ⟨none, 0, by rw [e]⟩
  · exact ⟨_, _, rfl⟩
theorem OwnsP.below {w w' : World} {B : Nat} {v : Value} {l : List Pr} (h : OwnsP w B v l) (hb : Below w.heap.size w w') : OwnsP w' B v l :=
  World.ownsRow.kept h (row := none) ⟨hb.os, hb.tape, hb.output, hb.size, fun k hk _ => hb.block k hk⟩ (by cases v.ownBlock <;> simp)
theorem OwnsP.src {w : World} {B : Nat} {v : Value} {l : List Pr} (h : OwnsP w B v l) : PSrc w v l (fun b => B ≤ b) := by
  rcases h.2 with ⟨rfl, e⟩ | ⟨g, cap, cur, rfl, hb, hh, hc, _⟩
  · exact ⟨none, 0, by rw [e], by omega, .inl (List.eq_nil_of_length_eq_zero e)⟩
  · have hh' : OwnsP w B (.slice (some ⟨g, 0, none⟩) l.length cap) l := h
    refine ⟨_, cap, rfl, hc, .inr ⟨g, 0, rfl, (Array.getElem?_eq_some_iff.1 hh).1, hb, fun i p hp => ?_⟩⟩
    have hi : i < l.length := (List.getElem?_eq_some_iff.1 hp).1
    rw [Nat.zero_add]
    exact ⟨(World.ownsRow.cellAt hh' _ (by omega)).trans (pr_get l i p hp).1, (World.ownsRow.cellAt hh' _ (by omega)).trans (pr_get l i p hp).2⟩

/-- What is put to a row: nothing, or the cells at an address. -/
def PartT (w : World) (ax : Option Addr) (m c : Nat) (size : Nat) (news : List Value) : Prop := news.length = m * size ∧ (∀ u ∈ news, u.oneCell' = true) ∧ ((ax = none ∧ m = 0 ∧ c = 0) ∨ ∃ ad, ax = some ad ∧ ∀ j u, news[j]? = some u → w.cell? (ad.add j) = some u)
theorem OwnsP.part {w : World} {B : Nat} {ax : Option Addr} {c m : Nat} {l : List Pr} (h : OwnsP w B (.slice ax m c) l) : PartT w ax m c 2 (prCells l) ∧ m = l.length := by
  obtain ⟨h1, h2⟩ := h
  rcases h2 with ⟨e, e0⟩ | ⟨g, cap, cur, e, hb, hh, hc, hm, hs, ht⟩
  · cases e
    exact ⟨⟨by rw [pr_len, e0], pr_one l, .inl ⟨rfl, rfl, rfl⟩⟩, e0.symm⟩
  · cases e
    refine ⟨⟨pr_len l, pr_one l, .inr ⟨_, rfl, fun j u hu => ?_⟩⟩, rfl⟩
    have hh' : OwnsP w B (.slice (some ⟨g, 0, none⟩) l.length c) l := ⟨h1, .inr ⟨g, c, cur, rfl, hb, hh, hc, hm, hs, ht⟩⟩
    exact World.ownsRow.cells hh' rfl j u hu
theorem wpList_append_partT {w : World} {ops : Array Oper} {rest : List Oper} {o : Oper} {a : Act} {Q : Exit → Act → World → Prop} (hgd : o.guard = none) (s x : Operand) (t : TypeId)
    (ho : o.op = .call { callee := .builtin .append, args := #[s, x], argTypes := #[t, t] })
    (base : Nat) (e : TypeId) (i : TypeInfo) (z : Value) (size bytes : Nat) (ht : Try.prog.underlying t = some (.slice e)) (hi : Try.prog.info? e = some i) (hz : i.zero = some z)
    (hsize : i.size = size) (hby : i.bytes = bytes) (hzs : z.cells.size = size) (hsz : 0 < size)
    (v : Value) (n : Nat) (xs : List Value) (hs : a.eval s = v) (hown : w.ownsRow base e size v n xs)
    (ax : Option Addr) (m c : Nat) (news : List Value) (hx : a.eval x = .slice ax m c) (hp : PartT w ax m c size news)
    (h63 : n + m ≤ maxLen) (hbytes : (n + m) * bytes ≤ 140737488355328) (hbase : base ≤ w.heap.size)
    (h : ∀ v' w', w'.ownsRow base e size v' (n + m) (xs ++ news) → w.grownBy w' v.ownBlock → wpList Try.prog ops Q rest (a.put o.dst v') w') : wpList Try.prog ops Q (o :: rest) a w := by
  obtain ⟨hl, h1, ⟨rfl, rfl, rfl⟩ | ⟨ad, rfl, hc⟩⟩ := hp
  · obtain rfl : news = [] := List.eq_nil_of_length_eq_zero (by simpa using hl)
    subst hsize
    have hr := run_append_owned_none (P := Try.prog) (w := w) base t o.type e i i.size ht hi v n xs hown
    refine wpList_plain hgd fun K hK => ?_
    unfold Oper.wp
    simp [execOp, ho, resolve, invoke, builtin, hs, hx, hr, Result.andThen]
    exact hK _ _ (h v w (by simpa using hown) (World.grownBy.refl _ _))
  · exact wpList_append_own w hgd s x t ho base e i z size bytes ht hi hz hsize hby hzs hsz v n xs hs hown ad m c news hx hl hc h1 h63 hbytes hbase fun v' w' h2 h3 _ => h v' w' h2 h3

theorem grown_belowT {w W w' : World} {base : Nat} {e : TypeId} {size : Nat} {v : Value} {n : Nat} {xs : List Value} (hb : Below base w W) (hB : base ≤ W.heap.size) (ho : W.ownsRow base e size v n xs) (hg : W.grownBy w' v.ownBlock) : Below base w w' :=
  ⟨hg.os.trans hb.os, hg.tape.trans hb.tape, hg.output.trans hb.output, Nat.le_trans hb.size hg.size, fun k hk => (hg.block k (by omega) (fun e => by have := (World.ownsRow.lt ho k e.symm).1; omega)).trans (hb.block k hk)⟩
theorem part_one (W : World) (k v : ByteArray) (T : TypeId) (H : Nat) (hH : W.heap.size = H) : PartT (W.alloc (.cells #[.string k, .string v] T)) (some ⟨H, 0, none⟩) 1 1 2 (prCells [(k, v)]) := by
  subst hH
  refine ⟨rfl, pr_one _, .inr ⟨_, rfl, fun j u h => ?_⟩⟩
  have e : (⟨W.heap.size, 0, none⟩ : Addr).add j = ⟨W.heap.size, j, none⟩ := by unfold Addr.add; split <;> simp_all
  rw [e, World.cell?_alloc_new]
  simpa [prCells] using h

set_option maxHeartbeats 400000 in
theorem l1InT_any (x a b : Int) (w : World) : Calls Try.prog 23 #[.int .i64 x, .int .i64 a, .int .i64 b] w fun e w' => e = .returned (.bool (decide (a ≤ x ∧ x ≤ b))) ∧ w' = w := by
  by_cases h1 : a ≤ x
  · by_cases h2 : x ≤ b
    · go_enter Try.func23, Try.ntmps23
      go_wp2
      go_ret
      exact ⟨by simp [h1, h2], rfl⟩
    · go_enter Try.func23, Try.ntmps23
      go_wp2
      go_ret
      exact ⟨by simp [h2]; try omega, rfl⟩
  · go_enter Try.func23, Try.ntmps23
    go_wp2
    go_ret
    exact ⟨by simp; try omega, rfl⟩

/-- What l7Pairs answers. -/
def PairsSaid (N : Nat → Lb) (n : Nat) (f : Nat) : Prop := ∀ (k : Int) (a : Option Addr) (c : Nat) (w : World), RowIs w w.heap.size (.slice a n c) n N → f ≤ 60 →
    Calls Try.prog 24 #[.agg #[.slice a n c], .int .i64 k, .int .i64 (61 - (f : Int))] w fun e w' => ∃ v, e = .returned (.tuple #[v, .bool (prsM N n f k).isSome]) ∧ OwnsP w' w.heap.size v ((prsM N n f k).getD []) ∧ Below w.heap.size w w'

set_option maxRecDepth 100000 in
set_option maxHeartbeats 4000000 in
theorem pairs_step (N : Nat → Lb) (n : Nat) (f : Nat) (hn : n ≤ 60) (ih : PairsSaid N n f) : PairsSaid N n (f + 1) := by
  intro k a c w hr hf
  obtain ⟨m, hm⟩ : ∃ m, m = prsM N n (f + 1) k := ⟨_, rfl⟩
  have HM : Hid (m = prsM N n (f + 1) k) := hm
  rw [← hm]
  clear hm
  have HR : Hid (RowIs w w.heap.size (.slice a n c) n N) := hr
  clear hr
  by_cases k1 : k = -1
  · subst k1
    have HE : Hid (m = some []) := by show _ = _; rw [HM.out, prsM, if_pos rfl]
    go_enter Try.func24, Try.ntmps24
    go_wp2
    rw [HE.out]
    exact bodyPost_ret (v := .tuple #[.slice none 0 0, .bool true]) (by simp [results, Try.results24, go_sem]) rfl ⟨_, rfl, World.ownsRow_nil _ _ _ _, by go_grown⟩
  · by_cases k2 : k < 0 ∨ (n : Int) ≤ k
    · have HE : Hid (m = none) := by show _ = _; rw [HM.out, prsM, if_neg k1, if_pos k2]
      have hd : decide ((0 : Int) ≤ k ∧ k ≤ (n : Int) - 1) = false := by simp; omega
      go_enter Try.func24, Try.ntmps24
      go_wp2_with fail
      refine (l1InT_any _ _ _ _).mono ?_
      rintro e w1 ⟨rfl, hw1⟩
      rw [hd]
      have hw := hw1.symm
      subst hw
      clear hw1
      go_wp2
      rw [HE.out]
      exact bodyPost_ret (v := .tuple #[.slice none 0 0, .bool false]) (by simp [results, Try.results24, go_sem]) rfl ⟨_, rfl, World.ownsRow_nil _ _ _ _, by go_grown⟩
    · obtain ⟨i, rfl⟩ : ∃ i : Nat, k = (i : Int) := ⟨k.toNat, by omega⟩
      have hin : i < n := by omega
      have hd : decide ((0 : Int) ≤ (i : Int) ∧ (i : Int) ≤ (n : Int) - 1) = true := by simp; omega
      obtain ⟨a', c', e', hn40, hrow⟩ := HR.out
      cases e'
      rcases hrow with h0 | ⟨g, off, rfl, hg, hat⟩
      · omega
      have HAT : Hid (LimbsAt w g off n N) := hat
      obtain ⟨a0, a1, a2, a3⟩ := hat i hin
      have HM2 : Hid (m = if ((N i).left ≠ -1 ∧ (N i).left ≤ i) ∨ ((N i).right ≠ -1 ∧ (N i).right ≤ i) then none else
        match prsM N n f (N i).left, prsM N n f (N i).right with
        | some a, some b => if 60 ≤ a.length + b.length then none else some (a ++ ((N i).key, (N i).val) :: b)
        | _, _ => none) := by
        show _ = _
        rw [HM.out, prsM, if_neg k1, if_neg k2]
        rfl
      obtain ⟨x, hx⟩ : ∃ x, x = N i := ⟨_, rfl⟩
      rw [← hx] at a0 a1 a2 a3 HM2
      obtain ⟨xk, xv, xl, xr⟩ := x
      dsimp only at a0 a1 a2 a3 HM2
      have j0 : (0 : Int) ≤ (i : Int) := by omega
      have j1 : (i : Int) < (n : Int) := by omega
      have hd60 : ¬ (60 : Int) < 61 - ((f + 1 : Nat) : Int) := by omega
      clear hat hx HM k2 k1
      go_enter Try.func24, Try.ntmps24
      go_wp2_with fail
      refine (l1InT_any _ _ _ _).mono ?_
      rintro e w1 ⟨rfl, hw1⟩
      rw [hd]
      have hw := hw1.symm
      subst hw
      clear hw1
      go_upto_region 6 with fail
      obtain ⟨W0, hW0⟩ : ∃ W0, W0 = (w.alloc (.cells #[.slice (some ⟨g, off, none⟩) n c] 28)).alloc (.cells #[.string xk, .string xv, .int .i64 xl, .int .i64 xr] 55) := ⟨_, rfl⟩
      have z0 : W0.heap.size = w.heap.size + 1 + 1 := by rw [hW0]; simp
      have b0 : Below w.heap.size w W0 := by rw [hW0]; exact ((Below.refl _ _).alloc (Nat.le_refl _) _).alloc (by simp) _
      have t0 : W0.cell? ⟨w.heap.size, 0, none⟩ = some (.slice (some ⟨g, off, none⟩) n c) := by rw [hW0]; simp [go_sem]
      have y0 : W0.cell? ⟨w.heap.size + 1, 0, none⟩ = some (.string xk) := by rw [hW0]; simp [go_sem]
      have y1 : W0.cell? ⟨w.heap.size + 1, 1, none⟩ = some (.string xv) := by rw [hW0]; simp [go_sem]
      have y2 : W0.cell? ⟨w.heap.size + 1, 2, none⟩ = some (.int .i64 xl) := by rw [hW0]; simp [go_sem]
      have y3 : W0.cell? ⟨w.heap.size + 1, 3, none⟩ = some (.int .i64 xr) := by rw [hW0]; simp [go_sem]
      rw [← hW0]
      clear hW0 a0 a1 a2 a3
      obtain ⟨bad, hbad⟩ : ∃ bad : Bool, (bad = true ↔ ((xl ≠ -1 ∧ xl ≤ i) ∨ (xr ≠ -1 ∧ xr ≤ i))) := ⟨decide ((xl ≠ -1 ∧ xl ≤ i) ∨ (xr ≠ -1 ∧ xr ≤ i)), by simp⟩
      have HBD : Hid (bad = true ↔ ((xl ≠ -1 ∧ xl ≤ i) ∨ (xr ≠ -1 ∧ xr ≤ i))) := hbad
      clear hbad
      go_cut [51] (fun q wx => q = .bool bad ∧ wx = W0)
      case first =>
        by_cases l1 : xl = -1
        · by_cases r1 : xr = -1
          · have HE : Hid (bad = false) := by show _ = _; rw [← Bool.not_eq_true, HBD.out]; rintro (h | h) <;> omega
            go_wp2
            go_meet
            case rel => exact ⟨by first | (rw [HE.out]; done) | (rw [HE.out]; simp [r1]), rfl⟩
          · by_cases r2 : xr ≤ i
            · have HE : Hid (bad = true) := by show _ = _; rw [HBD.out]; exact .inr ⟨r1, r2⟩
              go_wp2
              go_meet
              case rel => exact ⟨by first | (rw [HE.out]; done) | (rw [HE.out]; simp [r1]), rfl⟩
            · have HE : Hid (bad = false) := by show _ = _; rw [← Bool.not_eq_true, HBD.out]; rintro (h | h) <;> omega
              go_wp2
              go_meet
              case rel => exact ⟨by first | (rw [HE.out]; done) | (rw [HE.out]; simp [r1]), rfl⟩
        · by_cases l2 : xl ≤ i
          · have HE : Hid (bad = true) := by show _ = _; rw [HBD.out]; exact .inl ⟨l1, l2⟩
            go_wp2
            go_meet
            case rel => exact ⟨by first | (rw [HE.out]; done) | (rw [HE.out]; simp [r1]), rfl⟩
          · by_cases r1 : xr = -1
            · have HE : Hid (bad = false) := by show _ = _; rw [← Bool.not_eq_true, HBD.out]; rintro (h | h) <;> omega
              go_wp2
              go_meet
              case rel => exact ⟨by first | (rw [HE.out]; done) | (rw [HE.out]; simp [r1]), rfl⟩
            · by_cases r2 : xr ≤ i
              · have HE : Hid (bad = true) := by show _ = _; rw [HBD.out]; exact .inr ⟨r1, r2⟩
                go_wp2
                go_meet
                case rel => exact ⟨by first | (rw [HE.out]; done) | (rw [HE.out]; simp [r1]), rfl⟩
              · have HE : Hid (bad = false) := by show _ = _; rw [← Bool.not_eq_true, HBD.out]; rintro (h | h) <;> omega
                go_wp2
                go_meet
                case rel => exact ⟨by first | (rw [HE.out]; done) | (rw [HE.out]; simp [r1]), rfl⟩
      case rest =>
        obtain ⟨rfl, hwc⟩ := hcut
        subst hwc
        cases bad with
        | true =>
          have HE : Hid (m = none) := by show _ = _; rw [HM2.out, if_pos (HBD.out.1 rfl)]
          have HB0 : Hid (Below w.heap.size w wc) := b0
          clear b0
          go_wp2
          rw [HE.out]
          exact bodyPost_ret (v := .tuple #[.slice none 0 0, .bool false]) (by simp [results, Try.results24, go_sem]) rfl ⟨_, rfl, World.ownsRow_nil _ _ _ _, HB0.out⟩
        | false =>
          have HM3 : Hid (m = match prsM N n f xl, prsM N n f xr with
            | some a, some b => if 60 ≤ a.length + b.length then none else some (a ++ (xk, xv) :: b)
            | _, _ => none) := by
            show _ = _
            rw [HM2.out, if_neg (fun h => by have := HBD.out.2 h; cases this)]
          have HRW : Hid (∀ w', Below w.heap.size w w' → RowIs w' w'.heap.size (.slice (some ⟨g, off, none⟩) n c) n N) := fun w' hb => ⟨_, c, rfl, hn40, .inr ⟨g, off, rfl, by have := hb.size; omega, HAT.out.below hb hg⟩⟩
          have HB0 : Hid (Below w.heap.size w wc) := b0
          obtain ⟨o1, ho1⟩ : ∃ o, o = prsM N n f xl := ⟨_, rfl⟩
          obtain ⟨o2, ho2⟩ : ∃ o, o = prsM N n f xr := ⟨_, rfl⟩
          have HLN : Hid ((∀ l, o1 = some l → l.length ≤ 60) ∧ (∀ l, o2 = some l → l.length ≤ 60)) := ⟨fun l h => prsM_len N n f xl l (by rw [← ho1]; exact h), fun l h => prsM_len N n f xr l (by rw [← ho2]; exact h)⟩
          rw [← ho1, ← ho2] at HM3
          have hdp : (61 - ((f : Int) + 1) + 1) = 61 - (f : Int) := by omega
          clear b0 HM2 HBD hd hd60 j0 j1
          go_wp2_with fail
          refine (ih xl (some ⟨g, off, none⟩) c _ (HRW.out _ HB0.out) (by omega)).mono ?_
          rintro e w1 ⟨v1, rfl, hv1, hb1⟩
          rw [← ho1] at hv1 ⊢
          have HV1 : Hid (OwnsP w1 wc.heap.size v1 (o1.getD [])) := hv1
          obtain ⟨a1, c1, rfl⟩ := hv1.form
          have HB1 : Hid (Below w.heap.size w w1) := HB0.out.trans (hb1.mono (by omega))
          have z1 := hb1.size
          have t1 : w1.cell? ⟨w.heap.size, 0, none⟩ = some (.slice (some ⟨g, off, none⟩) n c) := (hb1.cell (by show w.heap.size < _; omega)).trans t0
          have x0 : w1.cell? ⟨w.heap.size + 1, 0, none⟩ = some (.string xk) := (hb1.cell (by show w.heap.size + 1 < _; omega)).trans y0
          have x1 : w1.cell? ⟨w.heap.size + 1, 1, none⟩ = some (.string xv) := (hb1.cell (by show w.heap.size + 1 < _; omega)).trans y1
          have x3 : w1.cell? ⟨w.heap.size + 1, 3, none⟩ = some (.int .i64 xr) := (hb1.cell (by show w.heap.size + 1 < _; omega)).trans y3
          obtain ⟨n1, hn1⟩ : ∃ k, k = (o1.getD []).length := ⟨_, rfl⟩
          have HN1 : Hid (n1 = (o1.getD []).length) := hn1
          obtain ⟨q1, hq1⟩ : ∃ q, q = o1.isSome := ⟨_, rfl⟩
          have HQ1 : Hid (q1 = o1.isSome) := hq1
          rw [← hn1] at HV1 ⊢
          rw [← hq1]
          clear hv1 hb1 t0 y0 y1 y2 y3 hn1 hq1 ho1
          go_wp2_with fail
          refine (ih xr (some ⟨g, off, none⟩) c _ (HRW.out _ HB1.out) (by omega)).mono ?_
          rintro e w2 ⟨v2, rfl, hv2, hb2⟩
          rw [← ho2] at hv2 ⊢
          have HV2 : Hid (OwnsP w2 w1.heap.size v2 (o2.getD [])) := hv2
          obtain ⟨a2, c2, rfl⟩ := hv2.form
          have HB2 : Hid (Below w.heap.size w w2) := HB1.out.trans (hb2.mono (by omega))
          have z2 := hb2.size
          have e0 : w2.cell? ⟨w.heap.size + 1, 0, none⟩ = some (.string xk) := (hb2.cell (by show w.heap.size + 1 < _; omega)).trans x0
          have e1 : w2.cell? ⟨w.heap.size + 1, 1, none⟩ = some (.string xv) := (hb2.cell (by show w.heap.size + 1 < _; omega)).trans x1
          obtain ⟨n2, hn2⟩ : ∃ k, k = (o2.getD []).length := ⟨_, rfl⟩
          have HN2 : Hid (n2 = (o2.getD []).length) := hn2
          have HV1' : Hid (OwnsP w2 wc.heap.size (.slice a1 n1 c1) (o1.getD [])) := HV1.out.below hb2
          rw [← hn2] at HV2 ⊢
          clear hv2 hb2 t1 x0 x1 x3 hn2 ho2
          by_cases hok : ∃ la lb, o1 = some la ∧ o2 = some lb ∧ la.length + lb.length < 60
          · obtain ⟨la, lb, rfl, rfl, hll⟩ := hok
            have HE : Hid (m = some (la ++ (xk, xv) :: lb)) := by
              show _ = _
              rw [HM3.out]
              dsimp only
              rw [if_neg (by omega)]
            have h1 : n1 = la.length := HN1.out
            have h2 : n2 = lb.length := HN2.out
            subst h1 h2
            have hq : q1 = true := HQ1.out
            subst hq
            have HP1 : Hid (OwnsP w2 wc.heap.size (.slice a1 la.length c1) la) := HV1'.out
            have HP2 : Hid (OwnsP w2 w1.heap.size (.slice a2 lb.length c2) lb) := HV2.out
            have hlt : ¬ (60 : Int) ≤ (la.length : Int) + (lb.length : Int) := by omega
            obtain ⟨iN, hi, hz0, hz1, hz2⟩ := info_parts infoPr
            have HI : Hid (Try.prog.info? 40 = some iN ∧ iN.zero = some (.agg #[.string ⟨#[]⟩, .string ⟨#[]⟩]) ∧ iN.size = 2 ∧ iN.bytes = 32) := ⟨hi, hz0, hz1, hz2⟩
            have HS1 : Hid (∀ o, PartT (w2.alloc o) a1 la.length c1 2 (prCells la)) := fun o => (HP1.out.below ((Below.refl _ _).alloc (Nat.le_refl _) o)).part.1
            clear HV1' HV1 HV2 HN1 HN2 HQ1 HM3 HLN hi hz0 hz1 hz2
            go_wp2_with (at_builtin; refine wpList_append_partT rfl _ _ 36 rfl w2.heap.size 40 iN _ 2 32 Try.underlying36 HI.out.1 HI.out.2.1 HI.out.2.2.1 HI.out.2.2.2 rfl (by decide) _ 0 [] rfl (World.ownsRow_lit w2 #[] 0 (Nat.le_refl _) (by decide) rfl) a1 la.length c1 (prCells la) rfl (HS1.out _) (by unfold maxLen; omega) (by omega) (by simp) ?_)
            intro v3 w3 ho3 hg3
            have HO3 : Hid (OwnsP w3 w2.heap.size v3 la) := by
              show OwnsP _ _ _ _
              unfold OwnsP
              simpa using ho3
            have HB3 : Hid (Below w2.heap.size w2 w3) := grown_belowT ((Below.refl _ _).alloc (Nat.le_refl _) _) (by simp) (World.ownsRow_lit (base := w2.heap.size) (e := 40) (size := 2) w2 #[] 0 (Nat.le_refl _) (by decide) rfl) hg3
            have z3 := HB3.out.size
            obtain ⟨a3, c3, rfl⟩ := HO3.out.form
            have e0' : w3.cell? ⟨w.heap.size + 1, 0, none⟩ = some (.string xk) := (HB3.out.cell (by show w.heap.size + 1 < _; omega)).trans e0
            have e1' : w3.cell? ⟨w.heap.size + 1, 1, none⟩ = some (.string xv) := (HB3.out.cell (by show w.heap.size + 1 < _; omega)).trans e1
            have HA3 : Hid (∀ o, (w3.alloc o).ownsRow w2.heap.size 40 2 (.slice a3 la.length c3) la.length (prCells la)) := fun o => World.ownsRow.alloc HO3.out o
            have HN3 : Hid (∀ T, PartT (w3.alloc (.cells #[.string xk, .string xv] T)) (some ⟨w3.heap.size, 0, none⟩) 1 1 2 (prCells [(xk, xv)])) := fun T => part_one w3 xk xv T _ rfl
            clear ho3 hg3 e0 e1
            go_wp2_with (at_builtin; refine wpList_append_partT rfl _ _ 36 rfl w2.heap.size 40 iN _ 2 32 Try.underlying36 HI.out.1 HI.out.2.1 HI.out.2.2.1 HI.out.2.2.2 rfl (by decide) _ la.length (prCells la) rfl (HA3.out _) (some ⟨w3.heap.size, 0, none⟩) 1 1 (prCells [(xk, xv)]) rfl (HN3.out _) (by unfold maxLen; omega) (by omega) (by simp; omega) ?_)
            intro v4 w4 ho4 hg4
            have HO4 : Hid (OwnsP w4 w2.heap.size v4 (la ++ [(xk, xv)])) := by
              show OwnsP _ _ _ _
              unfold OwnsP
              rw [pr_app, List.length_append]
              exact ho4
            have HB4 : Hid (Below w2.heap.size w2 w4) := grown_belowT (HB3.out.trans ((Below.refl _ _).alloc (by omega) _)) (by simp; omega) (HA3.out _) hg4
            have z4 := HB4.out.size
            obtain ⟨a4, c4, rfl⟩ := HO4.out.form
            have HS4 : Hid (PartT w4 a2 lb.length c2 2 (prCells lb)) := (HP2.out.below HB4.out).part.1
            have hl4 : (la ++ [(xk, xv)]).length = la.length + 1 := by simp
            clear ho4 hg4 HA3 HN3 e0' e1'
            go_wp2_with (at_builtin; refine wpList_append_partT rfl _ _ 36 rfl w2.heap.size 40 iN _ 2 32 Try.underlying36 HI.out.1 HI.out.2.1 HI.out.2.2.1 HI.out.2.2.2 rfl (by decide) _ (la ++ [(xk, xv)]).length (prCells (la ++ [(xk, xv)])) rfl HO4.out a2 lb.length c2 (prCells lb) rfl HS4.out (by unfold maxLen; omega) (by omega) (by omega) ?_)
            intro v5 w5 ho5 hg5
            have HO5 : Hid (OwnsP w5 w.heap.size v5 (la ++ (xk, xv) :: lb)) := by
              show OwnsP _ _ _ _
              unfold OwnsP
              have e1 : la ++ (xk, xv) :: lb = (la ++ [(xk, xv)]) ++ lb := by simp
              rw [e1, pr_app, List.length_append, hl4]
              exact World.ownsRow.mono ho5 (by omega)
            have HB5 : Hid (Below w.heap.size w w5) := by
              have hg5' : w4.grownBy w5 (Value.slice a4 (la ++ [(xk, xv)]).length c4).ownBlock := by rw [hl4]; exact hg5
              exact HB2.out.trans ((grown_belowT HB4.out (by omega) HO4.out hg5').mono (by omega))
            obtain ⟨a5, c5, rfl⟩ := HO5.out.form
            clear ho5 hg5
            go_wp2_with fail
            rw [HE.out]
            exact bodyPost_ret (v := .tuple #[.slice a5 (la ++ (xk, xv) :: lb).length c5, .bool true]) (by simp [results, Try.results24, go_sem]) rfl ⟨_, rfl, HO5.out, HB5.out⟩
          · have HE : Hid (m = none) := by
              show _ = _
              rw [HM3.out]
              cases o1 with
              | none => rfl
              | some la =>
                cases o2 with
                | none => rfl
                | some lb =>
                  dsimp only
                  rw [if_pos]
                  rcases Nat.lt_or_ge (la.length + lb.length) 60 with h | h
                  · exact absurd ⟨la, lb, rfl, rfl, h⟩ hok
                  · exact h
            have HOK : Hid (¬ ∃ la lb, o1 = some la ∧ o2 = some lb ∧ la.length + lb.length < 60) := hok
            have n60 : n1 ≤ 60 ∧ n2 ≤ 60 := by
              rw [HN1.out, HN2.out]
              constructor
              · cases o1 with
                | none => simp
                | some l => exact HLN.out.1 l rfl
              · cases o2 with
                | none => simp
                | some l => exact HLN.out.2 l rfl
            obtain ⟨q2, hq2⟩ : ∃ q, q = o2.isSome := ⟨_, rfl⟩
            have HQ2 : Hid (q2 = o2.isSome) := hq2
            rw [← hq2]
            clear hok hq2
            cases q1 with
            | false =>
              go_wp2
              rw [HE.out]
              exact bodyPost_ret (v := .tuple #[.slice none 0 0, .bool false]) (by simp [results, Try.results24, go_sem]) rfl ⟨_, rfl, World.ownsRow_nil _ _ _ _, HB2.out⟩
            | true =>
              cases q2 with
              | false =>
                go_wp2
                rw [HE.out]
                exact bodyPost_ret (v := .tuple #[.slice none 0 0, .bool false]) (by simp [results, Try.results24, go_sem]) rfl ⟨_, rfl, World.ownsRow_nil _ _ _ _, HB2.out⟩
              | true =>
                have hge : (60 : Int) ≤ (n1 : Int) + (n2 : Int) := by
                  obtain ⟨la, hla⟩ := Option.isSome_iff_exists.1 HQ1.out.symm
                  obtain ⟨lb, hlb⟩ := Option.isSome_iff_exists.1 HQ2.out.symm
                  have h1 := HN1.out
                  have h2 := HN2.out
                  rw [hla] at h1
                  rw [hlb] at h2
                  rcases Nat.lt_or_ge (la.length + lb.length) 60 with h | h
                  · exact absurd ⟨la, lb, hla, hlb, h⟩ HOK.out
                  · simp at h1 h2; omega
                go_wp2
                rw [HE.out]
                exact bodyPost_ret (v := .tuple #[.slice none 0 0, .bool false]) (by simp [results, Try.results24, go_sem]) rfl ⟨_, rfl, World.ownsRow_nil _ _ _ _, HB2.out⟩
set_option maxRecDepth 100000 in
set_option maxHeartbeats 1000000 in
theorem pairs_zero (N : Nat → Lb) (n : Nat) (hn : n ≤ 60) : PairsSaid N n 0 := by
  intro k a c w hr hf
  by_cases k1 : k = -1
  · subst k1
    have HE : Hid (prsM N n 0 (-1) = some []) := by show _ = _; rw [prsM, if_pos rfl]
    go_enter Try.func24, Try.ntmps24
    go_wp2
    rw [HE.out]
    exact bodyPost_ret (v := .tuple #[.slice none 0 0, .bool true]) (by simp [results, Try.results24, go_sem]) rfl ⟨_, rfl, World.ownsRow_nil _ _ _ _, by go_grown⟩
  · have HE : Hid (prsM N n 0 k = none) := by show _ = _; rw [prsM, if_neg k1]
    obtain ⟨m, hm⟩ : ∃ m, m = prsM N n 0 k := ⟨_, rfl⟩
    have HE' : Hid (m = none) := hm.trans HE.out
    rw [← hm]
    clear hm
    obtain ⟨q, hq⟩ : ∃ q, q = decide ((0 : Int) ≤ k ∧ k ≤ (n : Int) - 1) := ⟨_, rfl⟩
    obtain ⟨a', c', e', hn40, hrow⟩ := hr
    clear hrow
    go_enter Try.func24, Try.ntmps24
    go_wp2_with fail
    refine (l1InT_any _ _ _ _).mono ?_
    rintro e w1 ⟨rfl, hw1⟩
    rw [← hq]
    have hw := hw1.symm
    subst hw
    clear hw1 hq
    cases q with
    | true =>
      go_wp2
      rw [HE'.out]
      exact bodyPost_ret (v := .tuple #[.slice none 0 0, .bool false]) (by simp [results, Try.results24, go_sem]) rfl ⟨_, rfl, World.ownsRow_nil _ _ _ _, by go_grown⟩
    | false =>
      go_wp2
      rw [HE'.out]
      exact bodyPost_ret (v := .tuple #[.slice none 0 0, .bool false]) (by simp [results, Try.results24, go_sem]) rfl ⟨_, rfl, World.ownsRow_nil _ _ _ _, by go_grown⟩
theorem pairs_any (N : Nat → Lb) (n : Nat) (hn : n ≤ 60) (f : Nat) : PairsSaid N n f := by
  induction f with
  | zero => exact pairs_zero N n hn
  | succ f ih => exact pairs_step N n f hn ih
end Go.Proofs.Ytnmbnebofbdmfaa
