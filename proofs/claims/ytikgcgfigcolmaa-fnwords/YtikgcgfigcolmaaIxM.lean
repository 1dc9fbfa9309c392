/- Words of texts and where they stand: the mathematics. No condition. -/
import Derived.Test.YtikgcgfigcolmaaLoM
namespace Go.Proofs.Ytikgcgfigcolmaa
open Go.RowKit
set_option linter.unusedVariables false

theorem lessB_total {a b : ByteArray} (h1 : lessB a b = false) (h2 : lessB b a = false) : a = b := by
  have h := cmpB_zero a b
  refine h.1 ?_
  unfold cmpB
  rw [cmp_less]
  unfold lessB at h1 h2
  rw [ByteArray.toList_eq, ByteArray.toList_eq] at h1 h2
  rw [if_neg (by rw [h1]; exact Bool.false_ne_true), if_neg (by rw [h2]; exact Bool.false_ne_true)]
theorem lessB_asymm {a b : ByteArray} (h : lessB a b = true) : lessB b a = false := by
  cases h2 : lessB b a with
  | false => rfl
  | true => have := lessB_trans h h2; rw [lessB_irr] at this; cases this
theorem lessB_ne {a b : ByteArray} (h : lessB a b = true) : a ≠ b := fun e => by rw [e, lessB_irr] at h; cases h

section
variable {β : Type}
/-- What stands at a key. -/
def getK (x : ByteArray) (l : List (ByteArray × β)) : Option β := (l.find? (fun p => decide (p.1 = x))).map (·.2)
def getD (x : ByteArray) (z : β) (l : List (ByteArray × β)) : β := (getK x l).getD z
def insK (p : ByteArray × β) : List (ByteArray × β) → List (ByteArray × β)
  | [] => [p]
  | q :: r => if lessB p.1 q.1 = true then p :: q :: r else q :: insK p r
/-- Set at a key. -/
def setK (x : ByteArray) (v : β) (l : List (ByteArray × β)) : List (ByteArray × β) := insK (x, v) (l.filter (fun p => !(decide (p.1 = x))))
/-- The keys rise. -/
def RiseK (l : List (ByteArray × β)) : Prop := l.Pairwise (fun p q => lessB p.1 q.1 = true)

theorem insK_mem {p q : ByteArray × β} : ∀ {l : List (ByteArray × β)}, q ∈ insK p l ↔ q = p ∨ q ∈ l
  | [] => by simp [insK]
  | y :: r => by
    unfold insK
    split
    · simp
    · simp only [List.mem_cons, insK_mem (l := r)]
      constructor <;> (rintro (h | h | h) <;> simp [h])
theorem insK_rise {p : ByteArray × β} : ∀ {l : List (ByteArray × β)}, RiseK l → (∀ q ∈ l, q.1 ≠ p.1) → RiseK (insK p l)
  | [], _, _ => by simp [insK, RiseK]
  | y :: r, h, hn => by
    obtain ⟨h1, h2⟩ := List.pairwise_cons.1 h
    unfold insK
    split
    · next hl =>
      refine List.pairwise_cons.2 ⟨fun q hq => ?_, h⟩
      rcases List.mem_cons.1 hq with rfl | hq
      · exact hl
      · exact lessB_trans hl (h1 q hq)
    · next hl =>
      refine List.pairwise_cons.2 ⟨fun q hq => ?_, insK_rise h2 fun q hq => hn q (by simp [hq])⟩
      rcases insK_mem.1 hq with rfl | hq
      · cases h3 : lessB y.1 q.1 with
        | true => rfl
        | false => exact absurd (lessB_total h3 (by simpa using hl)) (hn y (by simp))
      · exact h1 q hq
theorem setK_rise {x : ByteArray} {v : β} {l : List (ByteArray × β)} (h : RiseK l) : RiseK (setK x v l) :=
  insK_rise (h.filter _) fun q hq => by simpa using (List.mem_filter.1 hq).2
theorem mem_setK {x : ByteArray} {v : β} {l : List (ByteArray × β)} {q : ByteArray × β} : q ∈ setK x v l ↔ q = (x, v) ∨ (q ∈ l ∧ q.1 ≠ x) := by
  unfold setK
  rw [insK_mem, List.mem_filter]
  simp
theorem getK_mem {x : ByteArray} {v : β} {l : List (ByteArray × β)} (h : getK x l = some v) : (x, v) ∈ l := by
  unfold getK at h
  obtain ⟨p, hp, rfl⟩ := Option.map_eq_some_iff.1 h
  have h1 := List.mem_of_find?_eq_some hp
  have h2 := List.find?_some hp
  have : p.1 = x := by simpa using h2
  rw [← this]
  exact h1
theorem mem_getK {x : ByteArray} {v : β} : ∀ {l : List (ByteArray × β)}, RiseK l → (x, v) ∈ l → getK x l = some v
  | [], _, h => by simp at h
  | y :: r, hr, h => by
    obtain ⟨h1, h2⟩ := List.pairwise_cons.1 hr
    unfold getK
    rw [List.find?_cons]
    rcases List.mem_cons.1 h with rfl | h
    · simp
    · have hne := lessB_ne (h1 _ h)
      have : decide (y.1 = x) = false := by simpa using hne
      rw [this]
      exact mem_getK h2 h
theorem getK_none {x : ByteArray} {l : List (ByteArray × β)} : getK x l = none ↔ ∀ q ∈ l, q.1 ≠ x := by
  unfold getK
  simp
theorem getK_setK {x y : ByteArray} {v : β} {l : List (ByteArray × β)} (h : RiseK l) : getK y (setK x v l) = if y = x then some v else getK y l := by
  by_cases e : y = x
  · subst e
    rw [if_pos rfl]
    exact mem_getK (setK_rise h) (mem_setK.2 (.inl rfl))
  · rw [if_neg e]
    cases hk : getK y l with
    | none =>
      rw [getK_none] at hk ⊢
      intro q hq
      rcases mem_setK.1 hq with rfl | ⟨hq, _⟩
      · exact fun e' => e e'.symm
      · exact hk q hq
    | some u => exact mem_getK (setK_rise h) (mem_setK.2 (.inr ⟨getK_mem hk, e⟩))
theorem getD_setK {x y : ByteArray} {v z : β} {l : List (ByteArray × β)} (h : RiseK l) : getD y z (setK x v l) = if y = x then v else getD y z l := by
  unfold getD
  rw [getK_setK h]
  split <;> rfl
/-- Rising lists with the same at every key are the same. -/
theorem rise_ext : ∀ {l m : List (ByteArray × β)}, RiseK l → RiseK m → (∀ x, getK x l = getK x m) → l = m
  | [], [], _, _, _ => rfl
  | [], (y, v) :: r, _, hm, h => by
    have := h y
    rw [mem_getK (v := v) hm (by simp)] at this
    simp [getK] at this
  | (y, v) :: r, [], hl, _, h => by
    have := h y
    rw [mem_getK (v := v) hl (by simp)] at this
    simp [getK] at this
  | (y, v) :: r, (z, u) :: s, hl, hm, h => by
    obtain ⟨a1, a2⟩ := List.pairwise_cons.1 hl
    obtain ⟨b1, b2⟩ := List.pairwise_cons.1 hm
    have h1 : (y, v) ∈ (z, u) :: s := getK_mem (by rw [← h y]; exact mem_getK hl (by simp))
    have h2 : (z, u) ∈ (y, v) :: r := getK_mem (by rw [h z]; exact mem_getK hm (by simp))
    have h3 : (y, v) = (z, u) := by
      rcases List.mem_cons.1 h1 with e | h1
      · exact e
      · rcases List.mem_cons.1 h2 with e | h2
        · exact e.symm
        · have e1 := b1 _ h1
          have e2 := a1 _ h2
          rw [lessB_asymm e2] at e1
          cases e1
    rw [h3]
    congr 1
    refine rise_ext a2 b2 fun x => ?_
    by_cases e : x = y
    · subst e
      have n1 : getK x r = none := getK_none.2 fun q hq e => lessB_ne (a1 q hq) e.symm
      have e3 : z = x := by injection h3 with h3; exact h3.symm
      have n2 : getK x s = none := getK_none.2 fun q hq e => lessB_ne (b1 q hq) (e3.trans e.symm)
      rw [n1, n2]
    · have := h x
      unfold getK at this ⊢
      rw [List.find?_cons, List.find?_cons] at this
      have e1 : decide (y = x) = false := by simpa using fun e' => e e'.symm
      have e3 : z = y := by injection h3 with h3; exact h3.symm
      rw [e3] at this
      simpa only [e1] using this
/-- Where it stands, or would. -/
theorem setK_split {x : ByteArray} {v : β} {l1 l2 : List (ByteArray × β)} (h : RiseK (l1 ++ l2)) (h1 : ∀ q ∈ l1, lessB q.1 x = true) (h2 : ∀ q ∈ l2, lessB x q.1 = true) : setK x v (l1 ++ l2) = l1 ++ (x, v) :: l2 := by
  refine rise_ext (setK_rise h) ?_ fun y => ?_
  · obtain ⟨a1, a2, a3⟩ := List.pairwise_append.1 h
    refine List.pairwise_append.2 ⟨a1, List.pairwise_cons.2 ⟨h2, a2⟩, fun p hp q hq => ?_⟩
    rcases List.mem_cons.1 hq with rfl | hq
    · exact h1 p hp
    · exact a3 p hp q hq
  · have hr : RiseK (l1 ++ (x, v) :: l2) := by
      obtain ⟨a1, a2, a3⟩ := List.pairwise_append.1 h
      refine List.pairwise_append.2 ⟨a1, List.pairwise_cons.2 ⟨h2, a2⟩, fun p hp q hq => ?_⟩
      rcases List.mem_cons.1 hq with rfl | hq
      · exact h1 p hp
      · exact a3 p hp q hq
    rw [getK_setK h]
    by_cases e : y = x
    · rw [if_pos e, e]
      exact (mem_getK hr (by simp)).symm
    · rw [if_neg e]
      cases hk : getK y (l1 ++ l2) with
      | some u =>
        refine (mem_getK hr ?_).symm
        have := getK_mem hk
        simp only [List.mem_append, List.mem_cons] at this ⊢
        rcases this with h | h
        · exact .inl h
        · exact .inr (.inr h)
      | none =>
        refine (getK_none.2 fun q hq => ?_).symm
        have hk := getK_none.1 hk
        simp only [List.mem_append, List.mem_cons] at hq
        rcases hq with h | rfl | h
        · exact hk q (by simp [h])
        · exact fun e' => e e'.symm
        · exact hk q (by simp [h])
theorem setK_over {x : ByteArray} {v u : β} {l1 l2 : List (ByteArray × β)} (h : RiseK (l1 ++ (x, u) :: l2)) : setK x v (l1 ++ (x, u) :: l2) = l1 ++ (x, v) :: l2 := by
  obtain ⟨a1, a2, a3⟩ := List.pairwise_append.1 h
  obtain ⟨b1, b2⟩ := List.pairwise_cons.1 a2
  have hs : RiseK (l1 ++ l2) := List.pairwise_append.2 ⟨a1, b2, fun p hp q hq => a3 p hp q (by simp [hq])⟩
  have := setK_split (v := v) hs (fun q hq => a3 q hq (x, u) (by simp)) b1
  rw [← this]
  unfold setK
  congr 1
  simp only [List.filter_append, List.filter_cons]
  simp
end

/-- One more of a text. -/
def bump (t : Int) (l : List DPosting) : List DPosting := match l.getLast? with
  | some (a, n) => if a = t then l.dropLast ++ [(a, n + 1)] else l ++ [(t, 1)]
  | none => l ++ [(t, 1)]
/-- A word of a text, counted. -/
def cntW (t : Int) (es : List DEntry) (x : ByteArray) : List DEntry := setK x (bump t (getD x [] es)) es
def textIx (t : Int) (es : List DEntry) (ws : List ByteArray) : List DEntry := ws.foldl (cntW t) es
/-- How often it stands there. -/
def cntB (y : ByteArray) (ws : List ByteArray) : Nat := ws.countP (fun z => decide (z = y))
theorem cntB_append (y : ByteArray) (a b : List ByteArray) : cntB y (a ++ b) = cntB y a + cntB y b := List.countP_append
theorem cntB_one (y : ByteArray) : cntB y [y] = 1 := by simp [cntB]
/-- Counts of words. -/
def cnt1 (cs : List (ByteArray × Int)) (x : ByteArray) : List (ByteArray × Int) := setK x (getD x 0 cs + 1) cs
def cntsOf (ws : List ByteArray) : List (ByteArray × Int) := ws.foldl cnt1 []
/-- A word's posting put behind the others. -/
def postW (t : Int) (es : List DEntry) (p : ByteArray × Int) : List DEntry := setK p.1 (getD p.1 [] es ++ [(t, p.2)]) es
def textIm (t : Int) (es : List DEntry) (ws : List ByteArray) : List DEntry := (cntsOf ws).foldl (postW t) es

theorem cnt_rise (ws : List ByteArray) : ∀ cs : List (ByteArray × Int), RiseK cs → RiseK (ws.foldl cnt1 cs) := by
  induction ws with
  | nil => exact fun cs h => h
  | cons x r ih => exact fun cs h => ih _ (setK_rise h)
theorem cntsOf_rise (ws : List ByteArray) : RiseK (cntsOf ws) := cnt_rise ws [] List.Pairwise.nil
theorem cntsOf_snoc (ws : List ByteArray) (x : ByteArray) : cntsOf (ws ++ [x]) = cnt1 (cntsOf ws) x := by simp [cntsOf]
theorem snoc_ind {α : Type} {P : List α → Prop} (h0 : P []) (h1 : ∀ l x, P l → P (l ++ [x])) : ∀ l, P l := by
  intro l
  rw [← List.reverse_reverse l]
  induction l.reverse with
  | nil => exact h0
  | cons x r ih => rw [List.reverse_cons]; exact h1 _ _ ih
theorem cnt_get (y : ByteArray) : ∀ ws : List ByteArray, getK y (cntsOf ws) = if cntB y ws = 0 then none else some (cntB y ws : Int) := by
  refine snoc_ind (by simp [cntsOf, getK, cntB]) fun ws x ih => ?_
  rw [cntsOf_snoc, cnt1, getK_setK (cntsOf_rise ws), cntB_append]
  by_cases e : y = x
  · subst e
    rw [if_pos rfl, cntB_one, if_neg (by omega)]
    congr 1
    unfold getD
    rw [ih]
    by_cases hc : cntB y ws = 0
    · simp [hc]
    · simp [hc]
  · have hx : ¬ x = y := fun e' => e e'.symm
    rw [if_neg e, ih]
    simp [cntB, hx]
theorem cnt_pos {ws : List ByteArray} {p : ByteArray × Int} (h : p ∈ cntsOf ws) : p.2 = (cntB p.1 ws : Int) ∧ 0 < cntB p.1 ws := by
  have h1 := mem_getK (x := p.1) (v := p.2) (cntsOf_rise ws) h
  rw [cnt_get] at h1
  split at h1
  · cases h1
  · next hc =>
    injection h1 with h1
    exact ⟨h1.symm, by omega⟩

theorem post_rise (t : Int) (cs : List (ByteArray × Int)) : ∀ es : List DEntry, RiseK es → RiseK (cs.foldl (postW t) es) := by
  induction cs with
  | nil => exact fun es h => h
  | cons x r ih => exact fun es h => ih _ (setK_rise h)
theorem text_rise (t : Int) (ws : List ByteArray) : ∀ es : List DEntry, RiseK es → RiseK (textIx t es ws) := by
  unfold textIx
  induction ws with
  | nil => exact fun es h => h
  | cons x r ih => exact fun es h => ih _ (setK_rise h)
theorem post_get (t : Int) (y : ByteArray) : ∀ (cs : List (ByteArray × Int)) (es : List DEntry), RiseK cs → RiseK es → getD y [] (cs.foldl (postW t) es) = getD y [] es ++ (match getK y cs with | some c => [(t, c)] | none => [])
  | [], es, _, _ => by simp [getK]
  | p :: r, es, hc, he => by
    obtain ⟨c1, c2⟩ := List.pairwise_cons.1 hc
    have hp : RiseK (postW t es p) := setK_rise he
    rw [List.foldl_cons, post_get t y r _ c2 hp, postW, getD_setK he]
    by_cases e : y = p.1
    · have n1 : getK y r = none := getK_none.2 fun q hq e' => lessB_ne (c1 q hq) (e ▸ e'.symm)
      have n2 : getK y (p :: r) = some p.2 := mem_getK hc (by rw [e]; simp)
      rw [if_pos e, n1, n2, e]
      simp
    · have n2 : getK y (p :: r) = getK y r := by
        unfold getK
        rw [List.find?_cons]
        have : decide (p.1 = y) = false := by simpa using fun e' => e e'.symm
        rw [this]
      rw [if_neg e, n2]
/-- No posting is of this text yet. -/
def NotYet (t : Int) (es : List DEntry) : Prop := ∀ y, ∀ p ∈ getD y [] es, p.1 ≠ t
theorem bump_new {t : Int} {l : List DPosting} (h : ∀ p ∈ l, p.1 ≠ t) : bump t l = l ++ [(t, 1)] := by
  unfold bump
  cases e : l.getLast? with
  | none => rfl
  | some p =>
    have := h p (List.mem_of_getLast? e)
    simp [this]
theorem bump_more {t n : Int} {l : List DPosting} : bump t (l ++ [(t, n)]) = l ++ [(t, n + 1)] := by
  unfold bump
  simp
theorem text_get (t : Int) (y : ByteArray) (es : List DEntry) (he : RiseK es) (hn : NotYet t es) : ∀ ws : List ByteArray, getD y [] (textIx t es ws) = getD y [] es ++ (if cntB y ws = 0 then [] else [(t, (cntB y ws : Int))]) := by
  refine snoc_ind (by simp [textIx, cntB]) fun ws x ih => ?_
  have h1 : textIx t es (ws ++ [x]) = cntW t (textIx t es ws) x := by simp [textIx]
  rw [h1, cntW, getD_setK (text_rise t ws es he), cntB_append]
  by_cases e : y = x
  · subst e
    rw [if_pos rfl, ih, cntB_one, if_neg (show ¬ cntB y ws + 1 = 0 by omega)]
    by_cases hc : cntB y ws = 0
    · rw [if_pos hc, List.append_nil, bump_new (hn y), hc]
      simp
    · rw [if_neg hc, bump_more]
      simp
  · have hx : ¬ x = y := fun e' => e e'.symm
    rw [if_neg e, ih]
    simp [cntB, hx]
/-- No list is empty. -/
def Filled (es : List DEntry) : Prop := ∀ p ∈ es, p.2 ≠ []
theorem filled_get {es : List DEntry} (h : Filled es) (y : ByteArray) : getK y es = if getD y [] es = [] then none else some (getD y [] es) := by
  unfold getD
  cases hk : getK y es with
  | none => simp
  | some v => simp [h (y, v) (getK_mem hk)]
theorem filled_set {es : List DEntry} (h : Filled es) {x : ByteArray} {l : List DPosting} (hl : l ≠ []) : Filled (setK x l es) := fun p hp => by
  rcases mem_setK.1 hp with rfl | ⟨hp, _⟩
  · exact hl
  · exact h p hp
theorem bump_ne (t : Int) (l : List DPosting) : bump t l ≠ [] := by
  unfold bump
  split
  · split <;> simp
  · simp
theorem text_filled (t : Int) (ws : List ByteArray) : ∀ es : List DEntry, Filled es → Filled (textIx t es ws) := by
  unfold textIx
  induction ws with
  | nil => exact fun es h => h
  | cons x r ih => exact fun es h => ih _ (filled_set h (bump_ne _ _))
theorem post_filled (t : Int) (cs : List (ByteArray × Int)) : ∀ es : List DEntry, Filled es → Filled (cs.foldl (postW t) es) := by
  induction cs with
  | nil => exact fun es h => h
  | cons x r ih => exact fun es h => ih _ (filled_set h (by simp))
/-- Counted one by one, or all at once: the same. -/
theorem text_same {t : Int} {es : List DEntry} {ws : List ByteArray} (he : RiseK es) (hf : Filled es) (hn : NotYet t es) : textIx t es ws = textIm t es ws := by
  refine rise_ext (text_rise t ws es he) (post_rise t _ es he) fun y => ?_
  have e : getD y [] (textIx t es ws) = getD y [] (textIm t es ws) := by
    rw [text_get t y es he hn, textIm, post_get t y _ es (cntsOf_rise ws) he, cnt_get]
    by_cases hc : cntB y ws = 0 <;> simp [hc]
  have h2 : Filled (textIm t es ws) := post_filled t _ es hf
  rw [filled_get (text_filled t ws es hf), filled_get h2, e]

/-- The index of the texts, the first of which has this number. -/
def ixGo : Nat → List ByteArray → List DEntry → List DEntry
  | _, [], es => es
  | t, s :: r, es => ixGo (t + 1) r (textIx t es (wordsB s))
def ixOf (l : List ByteArray) : List DEntry := ixGo 0 l []
theorem ixGo_snoc : ∀ (l : List ByteArray) (t : Nat) (es : List DEntry) (s : ByteArray), ixGo t (l ++ [s]) es = textIx (t + l.length : Nat) (ixGo t l es) (wordsB s)
  | [], t, es, s => by simp [ixGo]
  | x :: r, t, es, s => by
    rw [List.cons_append, ixGo, ixGo_snoc r, ixGo]
    congr 1
    simp
    omega
theorem ixOf_next {l : List ByteArray} {k : Nat} {s : ByteArray} (h : l[k]? = some s) : ixOf (l.take (k + 1)) = textIx k (ixOf (l.take k)) (wordsB s) := by
  have hk : k < l.length := (List.getElem?_eq_some_iff.1 h).1
  rw [List.take_add_one, h]
  unfold ixOf
  show ixGo 0 (l.take k ++ [s]) [] = _
  rw [ixGo_snoc, List.length_take]
  congr 2
  omega
/-- What is there of texts below n. -/
structure IxOk (n : Nat) (es : List DEntry) : Prop where
  rise : RiseK es
  filled : Filled es
  word : ∀ p ∈ es, isWordB p.1 = true
  post : ∀ y, postOk n (-1) (getD y [] es) = true
theorem postOk_mem {n : Int} : ∀ {l : List DPosting} {last : Int}, postOk n last l = true → ∀ p ∈ l, last < p.1 ∧ p.1 < n ∧ 1 ≤ p.2 ∧ p.2 ≤ 100
  | [], _, _, p, hp => by simp at hp
  | (t, m) :: r, last, h, p, hp => by
    rw [postOk] at h
    simp only [Bool.and_eq_true, decide_eq_true_eq] at h
    rcases List.mem_cons.1 hp with rfl | hp
    · exact h.1
    · have := postOk_mem h.2 p hp
      omega
theorem postOk_snoc {n n' : Int} {c : Int} (hn : n < n') (h1 : 1 ≤ c ∧ c ≤ 100) : ∀ {l : List DPosting} {last : Int}, postOk n last l = true → last < n → postOk n' last (l ++ [(n, c)]) = true
  | [], last, _, hl => by
    simp only [List.nil_append, postOk, Bool.and_true, decide_eq_true_eq]
    omega
  | (t, m) :: r, last, h, hl => by
    rw [postOk] at h
    simp only [Bool.and_eq_true, decide_eq_true_eq] at h
    rw [List.cons_append, postOk, postOk_snoc hn h1 h.2 (by omega), Bool.and_true]
    simp only [decide_eq_true_eq]
    omega
theorem postOk_mono {n n' : Int} (hn : n ≤ n') : ∀ {l : List DPosting} {last : Int}, postOk n last l = true → postOk n' last l = true
  | [], last, _ => rfl
  | (t, m) :: r, last, h => by
    rw [postOk] at h ⊢
    simp only [Bool.and_eq_true, decide_eq_true_eq] at h ⊢
    exact ⟨by omega, postOk_mono hn h.2⟩
theorem IxOk.nil : IxOk 0 [] := ⟨List.Pairwise.nil, fun p hp => by simp at hp, fun p hp => by simp at hp, fun y => rfl⟩
theorem IxOk.notYet {n : Nat} {es : List DEntry} (h : IxOk n es) : NotYet n es := fun y p hp => by
  have := postOk_mem (h.post y) p hp
  omega

/-- Words are words. -/
theorem takeW_isWB : ∀ (n : Nat) (l : List UInt8), ∀ c ∈ takeW n l, isWB (smB c) = true ∧ smB c = c
  | 0, l, c, h => by simp [takeW] at h
  | n + 1, [], c, h => by simp [takeW] at h
  | n + 1, x :: t, c, h => by
    unfold takeW at h
    split at h
    · next hw =>
      rcases List.mem_cons.1 h with rfl | h
      · have hs : smB (smB x) = smB x := by
          have h2 : ¬ (65 ≤ (smB x).toNat ∧ (smB x).toNat ≤ 90) := by
            unfold isWB at hw
            simp only [decide_eq_true_eq] at hw
            omega
          unfold smB at h2 ⊢
          rw [if_neg h2]
        rw [hs]
        exact ⟨hw, rfl⟩
      · exact takeW_isWB n t c h
    · simp at h
theorem takeW_self : ∀ (n : Nat) (l : List UInt8), (∀ c ∈ l, isWB (smB c) = true ∧ smB c = c) → l.length ≤ n → takeW n l = l
  | 0, l, _, h => by
    have : l = [] := List.eq_nil_of_length_eq_zero (by omega)
    simp [this, takeW]
  | n + 1, [], _, _ => rfl
  | n + 1, x :: t, hl, h => by
    have h1 := hl x (by simp)
    rw [takeW, if_pos h1.1, h1.2, takeW_self n t (fun c hc => hl c (by simp [hc])) (by simp at h; omega)]
theorem goW_words : ∀ (m : Nat) (l : List UInt8), l.length ≤ m → (∀ u ∈ goW [] l, isWL u = true) ∧ 2 * (goW [] l).length ≤ l.length + 1
  | 0, l, h => by
    have : l = [] := List.eq_nil_of_length_eq_zero (by omega)
    simp [this, goW]
  | m + 1, [], _ => by simp [goW]
  | m + 1, c :: t, h => by
    rw [goW_front]
    simp only [List.length_cons] at h
    split
    · obtain ⟨i1, i2⟩ := goW_words m t (by omega)
      rw [List.tail_cons, List.length_cons]
      exact ⟨i1, by omega⟩
    · next hne =>
      have hl := takeW_len 20 (c :: t)
      have hp : 0 < (takeW 20 (c :: t)).length := List.length_pos_iff.2 hne
      obtain ⟨n, hn⟩ : ∃ n, (takeW 20 (c :: t)).length = n := ⟨_, rfl⟩
      rw [hn] at hl hp ⊢
      have hd : ((c :: t).drop n).length ≤ m := by rw [List.length_drop, List.length_cons]; omega
      obtain ⟨i1, i2⟩ := goW_words m _ hd
      refine ⟨fun u hu => ?_, ?_⟩
      · rcases List.mem_cons.1 hu with rfl | hu
        · unfold isWL
          simp only [decide_eq_true_eq]
          exact ⟨hne, takeW_self 20 _ (takeW_isWB 20 _) (by omega)⟩
        · exact i1 u hu
      · rw [List.length_cons]
        rw [List.length_drop] at i2
        simp only [List.length_cons] at i2 ⊢
        by_cases h2 : 2 ≤ n
        · omega
        · have hn1 : n = 1 := by omega
          subst hn1
          -- one byte: what follows begins no word
          rw [List.drop_one, List.tail_cons] at i1 i2 ⊢
          cases t with
          | nil => simp [goW]
          | cons d s =>
            have hw : isWB (smB c) = true := by
              cases hw : isWB (smB c) with
              | true => rfl
              | false =>
                have : takeW 20 (c :: d :: s) = [] := by rw [takeW, if_neg (by rw [hw]; exact Bool.false_ne_true)]
                exact absurd this hne
            have hd : isWB (smB d) = false := by
              cases hd : isWB (smB d) with
              | false => rfl
              | true =>
                exfalso
                rw [takeW, if_pos hw, takeW, if_pos hd] at hn
                simp at hn
            have e : goW [] (d :: s) = goW [] s := by
              rw [goW, if_neg (by rw [hd]; exact Bool.false_ne_true), if_pos rfl]
            obtain ⟨_, i3⟩ := goW_words m s (by simp at h; omega)
            rw [e]
            simp only [List.length_cons]
            omega
theorem words_good {s x : ByteArray} (h : x ∈ wordsB s) : isWordB x = true := by
  unfold wordsB at h
  obtain ⟨u, hu, rfl⟩ := List.mem_map.1 h
  have := (goW_words _ _ (Nat.le_refl s.data.toList.length)).1 u hu
  unfold isWordB
  simpa [strL] using this
theorem words_few {s : ByteArray} (h : s.size ≤ 200) : (wordsB s).length ≤ 100 := by
  have := (goW_words _ _ (Nat.le_refl s.data.toList.length)).2
  rw [data_len] at this
  unfold wordsB
  rw [List.length_map]
  omega
theorem IxOk.next {n : Nat} {es : List DEntry} {s : ByteArray} (h : IxOk n es) (hs : s.size ≤ 200) : IxOk (n + 1) (textIx n es (wordsB s)) := by
  refine ⟨text_rise _ _ _ h.rise, text_filled _ _ _ h.filled, ?_, fun y => ?_⟩
  · have key : ∀ (ws : List ByteArray) (es : List DEntry), (∀ x ∈ ws, isWordB x = true) → (∀ p ∈ es, isWordB p.1 = true) → ∀ p ∈ textIx n es ws, isWordB p.1 = true := by
      intro ws
      unfold textIx
      induction ws with
      | nil => exact fun es _ h => h
      | cons x r ih =>
        intro es hw he
        refine ih _ (fun y hy => hw y (by simp [hy])) fun p hp => ?_
        rcases mem_setK.1 hp with rfl | ⟨hp, _⟩
        · exact hw x (by simp)
        · exact he p hp
    exact key _ _ (fun x hx => words_good hx) h.word
  · rw [text_get n y es h.rise h.notYet]
    have hp := h.post y
    split
    · rw [List.append_nil]
      exact postOk_mono (by omega) hp
    · next hc =>
      refine postOk_snoc (n := (n : Int)) (n' := ((n + 1 : Nat) : Int)) (by omega) ⟨by omega, ?_⟩ hp (by omega)
      have h1 : cntB y (wordsB s) ≤ (wordsB s).length := List.countP_le_length
      have h2 := words_few hs
      omega
theorem ix_ok {l : List ByteArray} (h : ∀ s ∈ l, s.size ≤ 200) : ∀ k, k ≤ l.length → IxOk k (ixOf (l.take k))
  | 0, _ => by rw [List.take_zero]; exact IxOk.nil
  | k + 1, hk => by
    have hx : l[k]? = some l[k] := List.getElem?_eq_getElem hk
    rw [ixOf_next hx]
    exact (ix_ok h k (by omega)).next (h _ (List.getElem_mem _))
theorem entOk_of {n : Int} : ∀ (es : List DEntry) (last : ByteArray), RiseK es → Filled es → (∀ p ∈ es, isWordB p.1 = true) → (∀ p ∈ es, postOk n (-1) p.2 = true) → (∀ p ∈ es, lessB last p.1 = true) → entOk n last es = true
  | [], _, _, _, _, _, _ => rfl
  | (x, l) :: r, last, h1, h2, h3, h4, h5 => by
    obtain ⟨a1, a2⟩ := List.pairwise_cons.1 h1
    have e1 : l.isEmpty = false := by
      have := h2 (x, l) (by simp)
      cases l with
      | nil => exact absurd rfl this
      | cons _ _ => rfl
    rw [entOk, h3 (x, l) (by simp), h5 (x, l) (by simp), e1, h4 (x, l) (by simp), entOk_of r x a2 (fun p hp => h2 p (by simp [hp])) (fun p hp => h3 p (by simp [hp])) (fun p hp => h4 p (by simp [hp])) (fun p hp => a1 p hp)]
    rfl
theorem ix_good {l : List ByteArray} (hl : l.length ≤ 40) (h : ∀ s ∈ l, s.size ≤ 200) : fGoodWords ((l.length : Int), ixOf l) = decide ((ixOf l).length ≤ 200) := by
  have hk := ix_ok h l.length (Nat.le_refl _)
  rw [List.take_length] at hk
  have e : entOk (l.length : Int) ⟨#[]⟩ (ixOf l) = true := entOk_of _ _ hk.rise hk.filled hk.word (fun p hp => by
    have := hk.post p.1
    unfold getD at this
    rw [mem_getK hk.rise (x := p.1) (v := p.2) hp] at this
    exact this) (fun p hp => less_nil _ (hk.word p hp))
  unfold fGoodWords
  show (decide (0 ≤ (l.length : Int) ∧ (l.length : Int) ≤ 40) && decide ((ixOf l).length ≤ 200) && entOk (l.length : Int) ⟨#[]⟩ (ixOf l)) = _
  rw [e, decide_eq_true (by omega)]
  simp
/-- IndexOf. -/
def fIndexOf (l : List ByteArray) : DWords × Bool :=
  if l.length ≤ 40 ∧ (∀ s ∈ l, s.size ≤ 200) ∧ (ixOf l).length ≤ 200 then (((l.length : Int), ixOf l), true) else ((0, []), false)
end Go.Proofs.Ytikgcgfigcolmaa
