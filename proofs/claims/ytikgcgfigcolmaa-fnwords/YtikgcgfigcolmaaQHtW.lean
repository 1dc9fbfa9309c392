/- Words of texts, counted as they stand: what the law asks of them. No condition. Texts that have all, any or none of the words: the specification's. No condition but that they fit in memory. -/
import Derived.Test.YtikgcgfigcolmaaIxI
import Derived.Test.YtikgcgfigcolmaaQHtI
namespace Go.Proofs.Ytikgcgfigcolmaa
open Go.RowKit
set_option linter.unusedVariables false

theorem find_get (s : ByteArray) : ∀ es : List DEntry, findL s es = getD s [] es
  | [] => rfl
  | (x, l) :: r => by
    have ih := find_get s r
    rw [findL, ih]
    unfold getD getK
    rw [List.find?_cons]
    by_cases h : x = s
    · simp [h]
    · simp [h]
/-- What the last posting of a text tells. -/
def timesF (l : List DPosting) (k : Int) : Int := l.foldl (fun t p => if p.1 = k then p.2 else t) 0
theorem times_next {l : List DPosting} {j : Nat} {p : DPosting} (h : l[j]? = some p) (k : Int) : timesF (l.take (j + 1)) k = if p.1 = k then p.2 else timesF (l.take j) k := by
  unfold timesF
  rw [List.take_add_one, h, List.foldl_append]
  rfl
/-- How many postings are of a text. -/
def ofT (l : List DPosting) (k : Nat) : Nat := l.countP (fun p => decide (p.1.toNat = k))
theorem get_next {x0 : List ByteArray} (h : ∀ s ∈ x0, s.size ≤ 200) {j : Nat} (hj : j < x0.length) (x : ByteArray) : getD x [] (ixOf (x0.take (j + 1))) = getD x [] (ixOf (x0.take j)) ++ (if cntB x (wordsB x0[j]) = 0 then [] else [((j : Int), (cntB x (wordsB x0[j]) : Int))]) := by
  have hk := ix_ok h j (by omega)
  rw [ixOf_next (List.getElem?_eq_getElem hj), text_get j x _ hk.rise hk.notYet]
theorem ix_times {x0 : List ByteArray} (h : ∀ s ∈ x0, s.size ≤ 200) {k : Nat} (hk : k < x0.length) (x : ByteArray) : ∀ j, j ≤ x0.length → timesF (getD x [] (ixOf (x0.take j))) k = (if k < j then (cntB x (wordsB x0[k]) : Int) else 0) ∧ ofT (getD x [] (ixOf (x0.take j))) k = (if k < j ∧ cntB x (wordsB x0[k]) ≠ 0 then 1 else 0)
  | 0, _ => by simp [ixOf, ixGo, getD, getK, timesF, ofT]
  | j + 1, hj => by
    obtain ⟨i1, i2⟩ := ix_times h hk x j (by omega)
    rw [get_next h (by omega) x]
    by_cases hc : cntB x (wordsB x0[j]) = 0
    · rw [if_pos hc, List.append_nil, i1, i2]
      by_cases e : k = j
      · subst e
        simp [hc]
      · have : (k < j) ↔ (k < j + 1) := by omega
        simp [this]
    · rw [if_neg hc]
      unfold timesF ofT at *
      rw [List.foldl_append, List.countP_append, i1, i2]
      by_cases e : k = j
      · subst e
        simp [hc]
      · have e' : ¬ ((j : Int) = (k : Int)) := by omega
        have e2 : ¬ j = k := fun h => e h.symm
        have : (k < j) ↔ (k < j + 1) := by omega
        simp [e', e2, this]
theorem ix_at {x0 : List ByteArray} (h : ∀ s ∈ x0, s.size ≤ 200) {k : Nat} {s : ByteArray} (hk : x0[k]? = some s) (x : ByteArray) : timesF (findL x (ixOf x0)) k = (cntB x (wordsB s) : Int) ∧ ofT (findL x (ixOf x0)) k = if cntB x (wordsB s) ≠ 0 then 1 else 0 := by
  obtain ⟨hlt, e⟩ := List.getElem?_eq_some_iff.1 hk
  have := ix_times h hlt x x0.length (Nat.le_refl _)
  rw [List.take_length, e] at this
  rw [find_get]
  simpa [hlt] using this
theorem add_at : ∀ (l : List DPosting) (M : List Int) (k : Nat) (m : Int), M[k]? = some m → (addL M l)[k]? = some (m + ofT l k)
  | [], M, k, m, h => by simpa [addL, ofT] using h
  | p :: r, M, k, m, h => by
    rw [addL]
    by_cases e : p.1.toNat = k
    · have h' : (M.modify p.1.toNat (· + 1))[k]? = some (m + 1) := by rw [List.getElem?_modify, h]; simp [e]
      rw [add_at r _ k (m + 1) h']
      unfold ofT
      rw [List.countP_cons]
      simp [e]
      omega
    · have h' : (M.modify p.1.toNat (· + 1))[k]? = some m := by rw [List.getElem?_modify, h]; simp [e]
      rw [add_at r _ k m h']
      unfold ofT
      rw [List.countP_cons]
      simp [e]
/-- How many of the words a text has. -/
def haveN (ws : List ByteArray) (s : ByteArray) : Nat := ws.countP (fun x => decide (0 < cntB x (wordsB s)))
theorem mark_at {x0 : List ByteArray} (h : ∀ s ∈ x0, s.size ≤ 200) {k : Nat} {s : ByteArray} (hk : x0[k]? = some s) : ∀ (ws : List ByteArray) (M M' : List Int) (m : Int), M[k]? = some m → markL (ixOf x0) M ws = some M' → M'[k]? = some (m + haveN ws s)
  | [], M, M', m, hm, hM => by
    simp only [markL, Option.some.injEq] at hM
    rw [← hM, hm]
    simp [haveN]
  | x :: r, M, M', m, hm, hM => by
    rw [markL] at hM
    split at hM
    · have h1 := add_at (findL x (ixOf x0)) M k m hm
      have h2 := mark_at h hk r _ M' _ h1 hM
      rw [h2, (ix_at h hk x).2]
      unfold haveN
      rw [List.countP_cons]
      by_cases hc : cntB x (wordsB s) = 0
      · simp [hc]
      · have : 0 < cntB x (wordsB s) := by omega
        simp [hc, this]
        omega
    · cases hM
theorem pick_mem (f : Int → Bool) : ∀ (M : List Int) (j : Nat) (k : Nat) (m : Int), M[k]? = some m → (((j + k : Nat) : Int) ∈ pickL f j M ↔ f m = true)
  | [], j, k, m, h => by simp at h
  | y :: r, j, 0, m, h => by
    obtain rfl : y = m := by simpa using h
    rw [pickL]
    have hb : ∀ z ∈ pickL f (j + 1) r, ((j : Nat) : Int) < z := by
      have : ∀ (M : List Int) (i : Nat), ∀ z ∈ pickL f i M, (i : Int) ≤ z := by
        intro M
        induction M with
        | nil => intro i z hz; simp [pickL] at hz
        | cons a t ih =>
          intro i z hz
          rw [pickL] at hz
          split at hz
          · rcases List.mem_cons.1 hz with rfl | hz
            · omega
            · have := ih (i + 1) z hz; omega
          · have := ih (i + 1) z hz; omega
      intro z hz
      have := this r (j + 1) z hz
      omega
    split
    · next hf => simp [hf]
    · next hf =>
      constructor
      · intro hz
        have := hb _ hz
        simp at this
      · intro h'
        exact absurd h' hf
  | y :: r, j, k + 1, m, h => by
    have h' : r[k]? = some m := by simpa using h
    have ih := pick_mem f r (j + 1) k m h'
    have e : ((j + (k + 1) : Nat) : Int) = ((j + 1 + k : Nat) : Int) := by omega
    rw [pickL, e]
    split
    · rw [List.mem_cons, ih]
      constructor
      · rintro (h | h)
        · omega
        · exact h
      · exact fun h => .inr h
    · exact ih
/-- What the law asks of the lists. -/
theorem with_has {x0 : List ByteArray} (h : ∀ s ∈ x0, s.size ≤ 200) {k : Nat} {s : ByteArray} (hk : x0[k]? = some s) (f : Int → Bool) (ws : List ByteArray) (hok : (fWith f ((x0.length : Int), ixOf x0) ws).2 = true) : ((k : Int) ∈ (fWith f ((x0.length : Int), ixOf x0) ws).1 ↔ f (haveN ws s) = true) := by
  unfold fWith at hok ⊢
  cases hm : fMarks ((x0.length : Int), ixOf x0) ws with
  | none => rw [hm] at hok; cases hok
  | some M =>
    simp only
    unfold fMarks at hm
    split at hm
    · have hkl := (List.getElem?_eq_some_iff.1 hk).1
      have h0 : (List.replicate (x0.length : Int).toNat (0 : Int))[k]? = some 0 := by rw [List.getElem?_replicate, if_pos (by omega)]
      have := mark_at h hk ws _ M 0 h0 hm
      rw [Int.zero_add] at this
      have hp := pick_mem f M 0 k _ this
      rw [Nat.zero_add] at hp
      exact hp
    · cases hm
theorem with_ok (f g : Int → Bool) (x : DWords) (ws : List ByteArray) : (fWith f x ws).2 = (fWith g x ws).2 := by
  unfold fWith
  cases fMarks x ws <;> rfl
theorem have_next {ws : List ByteArray} {j : Nat} {x : ByteArray} (h : ws[j]? = some x) (s : ByteArray) : haveN (ws.take (j + 1)) s = haveN (ws.take j) s + (if 0 < cntB x (wordsB s) then 1 else 0) := by
  unfold haveN
  rw [List.take_add_one, h, List.countP_append]
  by_cases hc : 0 < cntB x (wordsB s) <;> simp [hc]
theorem cnt_next {l : List ByteArray} {j : Nat} {o : ByteArray} (h : l[j]? = some o) (x : ByteArray) : cntB x (l.take (j + 1)) = cntB x (l.take j) + (if o = x then 1 else 0) := by
  rw [List.take_add_one, h, cntB_append]
  by_cases hc : o = x <;> simp [cntB, hc]
end Go.Proofs.Ytikgcgfigcolmaa
namespace Go.Proofs.Ytikgcgfigcolmaa
open Go.RowKit
set_option linter.unusedVariables false

set_option maxRecDepth 100000 in
set_option maxHeartbeats 4000000 in
theorem specWithAll_k (x0 : DWords) (C0 : List Value) (S0 : Nat → Prop) (x1 : List ByteArray) (a1 : Option Addr) (n1 c1 : Nat) (S1 : Nat → Prop) (w : World) (h0 : kWords.is false w S0 C0 x0) (z0 : kWords.sz x0 ≤ 2 ^ 20) (h1 : (kRow kStr).is false w S1 [.slice a1 n1 c1] x1) (z1 : (kRow kStr).sz x1 ≤ 2 ^ 20) :
    Calls Try.prog 14 #[.agg C0.toArray, .slice a1 n1 c1] w (RWithAll x0 x1 w) := by
  obtain ⟨tx, es⟩ := x0
  have HK : Hid (kWords.is false w S0 C0 (tx, es)) := h0
  obtain ⟨a, c, T, rfl, g0, hmx, hr, _⟩ := kWords_open h0
  have HZ0 : Hid (kWords.sz (tx, es) ≤ 2 ^ 20) := z0
  have HZ1 : Hid ((kRow kStr).sz x1 ≤ 2 ^ 20) := z1
  have HW : Hid ((kRow kStr).is false w S1 [.slice a1 n1 c1] x1) := h1
  have HN1 : Hid (n1 = x1.length) := row_len h1
  clear h0 z0 h1 z1 hr
  show Calls Try.prog 14 #[.agg #[.int .i64 tx, .slice a es.length c], .slice a1 n1 c1] w (RWith (fun n => decide (n = (x1.length : Int))) (tx, es) x1 w)
  go_enter Try.func14, Try.ntmps14
  go_wp2_with fail
  refine (l10Marks_k (tx, es) [.int .i64 tx, .slice a es.length c] S0 S1 x1 a1 n1 c1 _ (Kd.below HK.out (below_a1 _ _)) HZ0.out (Kd.below HW.out (below_a1 _ _)) HZ1.out).mono ?_
  rintro e Wz (⟨hno, rfl, hb1⟩ | ⟨g, M, hM, rfl, hgw, hMk, hbn, hM40, hb1⟩)
  · have HNO : Hid (fMarks (tx, es) x1 = none) := hno
    have HB : Hid (Below w.heap.size w Wz) := (below_a1 _ _).trans (hb1.mono (by simp))
    clear hno hb1
    go_wp2_with fail
    go_rounds 1
    refine bodyPost_ret (v := .tuple #[.slice none 0 0, .bool false]) (by simp [results, Try.results14, go_sem]) rfl ?_
    exact RWith.no HNO.out HB.out
  · have HMM : Hid (fMarks (tx, es) x1 = some M) := hM
    have HBR : Hid (Below w.heap.size w Wz) := (below_a1 _ _).trans (hb1.mono (by simp))
    have HM : Hid (MkAt Wz g M) := hMk
    have HBO : Hid (BndM M (2 ^ 30)) := hbn
    have hgr : g < Wz.heap.size := hMk.1
    have zwz : w.heap.size ≤ Wz.heap.size := HBR.out.size
    obtain ⟨t, ht⟩ : ∃ t, t = M.length := ⟨_, rfl⟩
    have hMt : Hid (M.length = t) := ht.symm
    rw [← ht] at hM40 ⊢
    obtain ⟨GL, hGL⟩ : ∃ GL, GL = pickL (fun n => decide (n = (x1.length : Int))) 0 M := ⟨_, rfl⟩
    have HGL : Hid (GL = pickL (fun n => decide (n = (x1.length : Int))) 0 M) := hGL
    clear hGL hM hb1 hMk hbn ht hgw
    go_wp2_with fail
    go_loopw [8, 19] (fun ov kv wq => ∃ (p : Nat) (L : List Int), p ≤ t ∧ kv = .int .i64 p ∧ L.length ≤ p ∧ Hid (L ++ pickL (fun n => decide (n = (x1.length : Int))) p (M.drop p) = GL) ∧ Hid (OwnL (fun y => [.int .i64 y]) 3 1 wq Wz.heap.size ov L) ∧ Below Wz.heap.size Wz wq) (fun _ kv _ => t - (intOf kv).toNat)
    case atStart => exact ⟨0, [], Nat.zero_le _, rfl, Nat.le_refl _, by show _ = _; rw [HGL.out]; simp, OwnL.nil _ _ _ _ _, Below.refl _ _⟩
    case round =>
      obtain ⟨p, L, hp, rfl, hLp, HI, HO, hnx⟩ := hrel
      obtain ⟨oa, oc, hov, _⟩ := HO.out.form
      subst hov
      obtain ⟨ml, hml⟩ : ∃ ml, ml = L.length := ⟨_, rfl⟩
      have HML : Hid (ml = L.length) := hml
      rw [← hml] at HO hLp ⊢
      clear hml
      have zq := hnx.size
      by_cases hpt : p < t
      · obtain ⟨y, hy⟩ : ∃ y, M[p]? = some y := ⟨_, List.getElem?_eq_getElem (by have := hMt.out; omega)⟩
        obtain ⟨y0, y1⟩ := HBO.out.at hy
        have A0 : wr.cell? ⟨g, p, none⟩ = some (.int .i64 y) := ((HM.out.belowB hgr hnx).2 p y hy).1
        have HI1 : Hid (L ++ (if (fun n => decide (n = (x1.length : Int))) y = true then (p : Int) :: pickL (fun n => decide (n = (x1.length : Int))) (p + 1) (M.drop (p + 1)) else pickL (fun n => decide (n = (x1.length : Int))) (p + 1) (M.drop (p + 1))) = GL) := by have := HI.out; rw [pick_drop (fun n => decide (n = (x1.length : Int))) hy] at this; exact this
        have p0 : (0 : Int) ≤ (p : Int) := by omega
        have p1 : (p : Int) < (t : Int) := by omega
        have HBQ : Hid (Below Wz.heap.size Wz wr) := hnx
        clear hy HI hnx
        by_cases hf : (fun n => decide (n = (x1.length : Int))) y = true
        · have HI2 : Hid (L ++ (p : Int) :: pickL (fun n => decide (n = (x1.length : Int))) (p + 1) (M.drop (p + 1)) = GL) := by have := HI1.out; rw [if_pos hf] at this; exact this
          clear HI1
          have fy : (y == (n1 : Int)) = true := by have h := hf; simp only [decide_eq_true_eq] at h; rw [h, HN1.out]; simp
          clear hf
          go_wp2_with (at_builtin; refine app_int rfl _ _ rfl Wz.heap.size _ L rfl (OwnL.below HO.out (below_a1 _ _)) _ (p : Int) rfl (cell_a1 _ _ _) (by rw [← HML.out]; omega) (by simp; omega) ?_)
          intro v3 w3 ho3 hb3 hz3
          have HO3 : Hid (OwnL (fun y => [.int .i64 y]) 3 1 w3 Wz.heap.size v3 (L ++ [(p : Int)])) := ho3
          have HB3 : Hid (Below Wz.heap.size Wz w3) := (HBQ.out.alloc (by omega) _).trans hb3
          clear ho3 hb3 hz3
          go_wp2_with fail
          go_roundw
          case rel => exact ⟨p + 1, L ++ [(p : Int)], by omega, by go_num, by have := HML.out; simp; omega, by show _ = _; rw [← HI2.out]; simp, HO3, HB3.out⟩
          case measure => simp [intOf]; omega
        · have HI2 : Hid (L ++ pickL (fun n => decide (n = (x1.length : Int))) (p + 1) (M.drop (p + 1)) = GL) := by have := HI1.out; rw [if_neg hf] at this; exact this
          clear HI1
          have fy : (y == (n1 : Int)) = false := by have h := hf; simp only [decide_eq_true_eq] at h; rw [HN1.out]; simpa using h
          clear hf
          go_wp2
          go_roundw
          case rel => exact ⟨p + 1, L, by omega, by go_num, by have := HML.out; omega, HI2, HO, HBQ.out⟩
          case measure => simp [intOf]; omega
      · have HE2 : Hid (L = GL) := by have := HI.out; rw [List.drop_eq_nil_of_le (by have := hMt.out; omega), pickL, List.append_nil] at this; exact this
        have p1 : ¬ (p : Int) < (t : Int) := by omega
        have HBF : Hid (Below w.heap.size w wr) := HBR.out.trans (hnx.mono zwz)
        clear HI hnx
        go_wp2
        refine bodyPost_ret (v := .tuple #[.slice oa ml oc, .bool true]) (by simp [results, Try.results14, go_sem]) rfl ?_
        exact RWith.yes HMM.out (by have := hMt.out; omega) (by rw [HE2.out, HGL.out]) zwz HO.out HBF.out

set_option maxRecDepth 100000 in
set_option maxHeartbeats 4000000 in
theorem specWithout_k (x0 : DWords) (C0 : List Value) (S0 : Nat → Prop) (x1 : List ByteArray) (a1 : Option Addr) (n1 c1 : Nat) (S1 : Nat → Prop) (w : World) (h0 : kWords.is false w S0 C0 x0) (z0 : kWords.sz x0 ≤ 2 ^ 20) (h1 : (kRow kStr).is false w S1 [.slice a1 n1 c1] x1) (z1 : (kRow kStr).sz x1 ≤ 2 ^ 20) :
    Calls Try.prog 20 #[.agg C0.toArray, .slice a1 n1 c1] w (RWithout x0 x1 w) := by
  obtain ⟨tx, es⟩ := x0
  have HK : Hid (kWords.is false w S0 C0 (tx, es)) := h0
  obtain ⟨a, c, T, rfl, g0, hmx, hr, _⟩ := kWords_open h0
  have HZ0 : Hid (kWords.sz (tx, es) ≤ 2 ^ 20) := z0
  have HZ1 : Hid ((kRow kStr).sz x1 ≤ 2 ^ 20) := z1
  have HW : Hid ((kRow kStr).is false w S1 [.slice a1 n1 c1] x1) := h1
  have HN1 : Hid (n1 = x1.length) := row_len h1
  clear h0 z0 h1 z1 hr
  show Calls Try.prog 20 #[.agg #[.int .i64 tx, .slice a es.length c], .slice a1 n1 c1] w (RWith (fun n => decide (n = 0)) (tx, es) x1 w)
  go_enter Try.func20, Try.ntmps20
  go_wp2_with fail
  refine (l10Marks_k (tx, es) [.int .i64 tx, .slice a es.length c] S0 S1 x1 a1 n1 c1 _ (Kd.below HK.out (below_a1 _ _)) HZ0.out (Kd.below HW.out (below_a1 _ _)) HZ1.out).mono ?_
  rintro e Wz (⟨hno, rfl, hb1⟩ | ⟨g, M, hM, rfl, hgw, hMk, hbn, hM40, hb1⟩)
  · have HNO : Hid (fMarks (tx, es) x1 = none) := hno
    have HB : Hid (Below w.heap.size w Wz) := (below_a1 _ _).trans (hb1.mono (by simp))
    clear hno hb1
    go_wp2_with fail
    go_rounds 1
    refine bodyPost_ret (v := .tuple #[.slice none 0 0, .bool false]) (by simp [results, Try.results20, go_sem]) rfl ?_
    exact RWith.no HNO.out HB.out
  · have HMM : Hid (fMarks (tx, es) x1 = some M) := hM
    have HBR : Hid (Below w.heap.size w Wz) := (below_a1 _ _).trans (hb1.mono (by simp))
    have HM : Hid (MkAt Wz g M) := hMk
    have HBO : Hid (BndM M (2 ^ 30)) := hbn
    have hgr : g < Wz.heap.size := hMk.1
    have zwz : w.heap.size ≤ Wz.heap.size := HBR.out.size
    obtain ⟨t, ht⟩ : ∃ t, t = M.length := ⟨_, rfl⟩
    have hMt : Hid (M.length = t) := ht.symm
    rw [← ht] at hM40 ⊢
    obtain ⟨GL, hGL⟩ : ∃ GL, GL = pickL (fun n => decide (n = 0)) 0 M := ⟨_, rfl⟩
    have HGL : Hid (GL = pickL (fun n => decide (n = 0)) 0 M) := hGL
    clear hGL hM hb1 hMk hbn ht hgw
    go_wp2_with fail
    go_loopw [8, 19] (fun ov kv wq => ∃ (p : Nat) (L : List Int), p ≤ t ∧ kv = .int .i64 p ∧ L.length ≤ p ∧ Hid (L ++ pickL (fun n => decide (n = 0)) p (M.drop p) = GL) ∧ Hid (OwnL (fun y => [.int .i64 y]) 3 1 wq Wz.heap.size ov L) ∧ Below Wz.heap.size Wz wq) (fun _ kv _ => t - (intOf kv).toNat)
    case atStart => exact ⟨0, [], Nat.zero_le _, rfl, Nat.le_refl _, by show _ = _; rw [HGL.out]; simp, OwnL.nil _ _ _ _ _, Below.refl _ _⟩
    case round =>
      obtain ⟨p, L, hp, rfl, hLp, HI, HO, hnx⟩ := hrel
      obtain ⟨oa, oc, hov, _⟩ := HO.out.form
      subst hov
      obtain ⟨ml, hml⟩ : ∃ ml, ml = L.length := ⟨_, rfl⟩
      have HML : Hid (ml = L.length) := hml
      rw [← hml] at HO hLp ⊢
      clear hml
      have zq := hnx.size
      by_cases hpt : p < t
      · obtain ⟨y, hy⟩ : ∃ y, M[p]? = some y := ⟨_, List.getElem?_eq_getElem (by have := hMt.out; omega)⟩
        obtain ⟨y0, y1⟩ := HBO.out.at hy
        have A0 : wr.cell? ⟨g, p, none⟩ = some (.int .i64 y) := ((HM.out.belowB hgr hnx).2 p y hy).1
        have HI1 : Hid (L ++ (if (fun n => decide (n = 0)) y = true then (p : Int) :: pickL (fun n => decide (n = 0)) (p + 1) (M.drop (p + 1)) else pickL (fun n => decide (n = 0)) (p + 1) (M.drop (p + 1))) = GL) := by have := HI.out; rw [pick_drop (fun n => decide (n = 0)) hy] at this; exact this
        have p0 : (0 : Int) ≤ (p : Int) := by omega
        have p1 : (p : Int) < (t : Int) := by omega
        have HBQ : Hid (Below Wz.heap.size Wz wr) := hnx
        clear hy HI hnx
        by_cases hf : (fun n => decide (n = 0)) y = true
        · have HI2 : Hid (L ++ (p : Int) :: pickL (fun n => decide (n = 0)) (p + 1) (M.drop (p + 1)) = GL) := by have := HI1.out; rw [if_pos hf] at this; exact this
          clear HI1
          have fy : (y == 0) = true := by have h := hf; simpa using h
          clear hf
          go_wp2_with (at_builtin; refine app_int rfl _ _ rfl Wz.heap.size _ L rfl (OwnL.below HO.out (below_a1 _ _)) _ (p : Int) rfl (cell_a1 _ _ _) (by rw [← HML.out]; omega) (by simp; omega) ?_)
          intro v3 w3 ho3 hb3 hz3
          have HO3 : Hid (OwnL (fun y => [.int .i64 y]) 3 1 w3 Wz.heap.size v3 (L ++ [(p : Int)])) := ho3
          have HB3 : Hid (Below Wz.heap.size Wz w3) := (HBQ.out.alloc (by omega) _).trans hb3
          clear ho3 hb3 hz3
          go_wp2_with fail
          go_roundw
          case rel => exact ⟨p + 1, L ++ [(p : Int)], by omega, by go_num, by have := HML.out; simp; omega, by show _ = _; rw [← HI2.out]; simp, HO3, HB3.out⟩
          case measure => simp [intOf]; omega
        · have HI2 : Hid (L ++ pickL (fun n => decide (n = 0)) (p + 1) (M.drop (p + 1)) = GL) := by have := HI1.out; rw [if_neg hf] at this; exact this
          clear HI1
          have fy : (y == 0) = false := by have h := hf; simpa using h
          clear hf
          go_wp2
          go_roundw
          case rel => exact ⟨p + 1, L, by omega, by go_num, by have := HML.out; omega, HI2, HO, HBQ.out⟩
          case measure => simp [intOf]; omega
      · have HE2 : Hid (L = GL) := by have := HI.out; rw [List.drop_eq_nil_of_le (by have := hMt.out; omega), pickL, List.append_nil] at this; exact this
        have p1 : ¬ (p : Int) < (t : Int) := by omega
        have HBF : Hid (Below w.heap.size w wr) := HBR.out.trans (hnx.mono zwz)
        clear HI hnx
        go_wp2
        refine bodyPost_ret (v := .tuple #[.slice oa ml oc, .bool true]) (by simp [results, Try.results20, go_sem]) rfl ?_
        exact RWith.yes HMM.out (by have := hMt.out; omega) (by rw [HE2.out, HGL.out]) zwz HO.out HBF.out
end Go.Proofs.Ytikgcgfigcolmaa
