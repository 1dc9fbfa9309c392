/- Kinds of data that are plain cells, rows of them as the library holds them; texts and pairs of numbers. No condition. -/
import Derived.Test.YtkboblfjchkedaaAp4
import Derived.Test.YtkboblfjchkedaaLib4
namespace Go.Proofs.Ytkboblfjchkedaa
open Go.RowKit Go.Sort
set_option linter.unusedVariables false

/-- A kind that is just its cells. -/
structure PlainK {α : Type} (K : Kd α) (cs : α → List Value) (ok : α → Prop) : Prop where
  is : ∀ {o w S C x}, K.is o w S C x ↔ C = cs x ∧ ok x
  wd : ∀ x, (cs x).length = K.wd
  pos : 0 < K.wd
  one : ∀ x, ∀ u ∈ cs x, u.oneCell' = true

section
variable {α : Type} {K : Kd α} {cs : α → List Value} {ok : α → Prop}
theorem PlainK.oks (H : PlainK K cs ok) {w : World} {S : Nat → Prop} {o : Bool} {a : Option Addr} {n c : Nat} {l : List α} (h : (kRow K).is o w S [.slice a n c] l) : ∀ x ∈ l, ok x := by
  intro x hx
  obtain ⟨i, hi⟩ := List.getElem?_of_mem hx
  obtain ⟨b, off, B, C, _, _, _, hk, _⟩ := row_at h hi
  exact (H.is.1 hk).2
theorem PlainK.cell (H : PlainK K cs ok) {w : World} {S : Nat → Prop} {o : Bool} {b off n c : Nat} {l : List α} (h : (kRow K).is o w S [.slice (some ⟨b, off, none⟩) n c] l) {i j : Nat} {x : α} {v : Value} (hx : l[i]? = some x) (hj : (cs x)[j]? = some v) : w.cell? ⟨b, off + i * K.wd + j, none⟩ = some v := by
  obtain ⟨b', off', B, C, e, _, _, hk, _, hc⟩ := row_at h hx
  obtain ⟨rfl, rfl⟩ : b = b' ∧ off = off' := by injection e with e; injection e with e1 e2; exact ⟨e1, e2⟩
  obtain ⟨rfl, _⟩ := H.is.1 hk
  exact (hc j v hj).1
theorem PlainK.open (H : PlainK K cs ok) {w : World} {S : Nat → Prop} {b off n c : Nat} {l : List α} (h : (kRow K).is true w S [.slice (some ⟨b, off, none⟩) n c] l) {i j : Nat} {x : α} {v : Value} (hx : l[i]? = some x) (hj : (cs x)[j]? = some v) : w.frozen? ⟨b, off + i * K.wd + j, none⟩ = false := by
  obtain ⟨b', off', B, C, e, _, _, hk, _, hc⟩ := row_at h hx
  obtain ⟨rfl, rfl⟩ : b = b' ∧ off = off' := by injection e with e; injection e with e1 e2; exact ⟨e1, e2⟩
  obtain ⟨rfl, _⟩ := H.is.1 hk
  exact (hc j v hj).2 rfl
theorem PlainK.shut (H : PlainK K cs ok) {w : World} {S : Nat → Prop} {b off n c : Nat} {l : List α} (hc : ∀ i x, l[i]? = some x → ∀ j v, (cs x)[j]? = some v → w.cell? ⟨b, off + i * K.wd + j, none⟩ = some v ∧ w.frozen? ⟨b, off + i * K.wd + j, none⟩ = false) (hb : b < w.heap.size) (hS : S b) (hn : n = l.length) (hnc : n ≤ c) (hm : l.length ≤ 2 ^ 30) (hk : ∀ x ∈ l, ok x) : (kRow K).is true w S [.slice (some ⟨b, off, none⟩) n c] l := by
  subst hn
  refine ⟨_, c, rfl, by unfold maxLen; omega, fun _ => hnc, .inr ⟨b, off, fun _ _ => False, fun i => ((l[i]?).map cs).getD [], rfl, hb, hS, fun i x hx => ?_, fun _ _ _ h => h.elim, fun _ => ⟨fun _ _ h => h, fun _ _ _ _ _ _ h => h.elim⟩⟩⟩
  simp only [hx, Option.map_some, Option.getD_some]
  exact ⟨H.is.2 ⟨rfl, hk x (List.mem_of_getElem? hx)⟩, fun j v hj => ⟨(hc i x hx j v hj).1, fun _ => (hc i x hx j v hj).2⟩⟩
theorem PlainK.own (H : PlainK K cs ok) {T : TypeId} {w : World} {B : Nat} {a : Option Addr} {n c : Nat} {l : List α} (h : OwnL cs T K.wd w B (.slice a n c) l) (hl : l.length ≤ 2 ^ 30) (hk : ∀ x ∈ l, ok x) : (kRow K).is true w (fun k => B ≤ k) [.slice a n c] l :=
  own_kRow H.wd h (by unfold maxLen; omega) (fun x hx W S => H.is.2 ⟨rfl, hk x hx⟩)

variable [Inhabited α]
theorem toA {l : List α} {i : Nat} (h : i < l.length) : l[i]? = some l.toArray[i]! := by
  rw [List.getElem?_eq_getElem h, getElem!_pos l.toArray i (by simpa using h)]
  simp
theorem PlainK.holdsK (H : PlainK K cs ok) {w : World} {S : Nat → Prop} {b off n c : Nat} {l : List α} (h : (kRow K).is true w S [.slice (some ⟨b, off, none⟩) n c] l) : HoldsK cs K.wd w b off l.toArray := by
  intro j hj
  rw [size_flatK] at hj
  have hj' : j < l.length * K.wd := by simpa using hj
  rw [get_flatK _ _ _ _ hj]
  have hq : j / K.wd < l.length := Nat.div_lt_of_lt_mul (by rw [Nat.mul_comm]; exact hj')
  have hr : j % K.wd < K.wd := Nat.mod_lt _ H.pos
  have hdm : j / K.wd * K.wd + j % K.wd = j := by rw [Nat.mul_comm]; exact Nat.div_add_mod _ _
  have hv : (cs l.toArray[j / K.wd]!)[j % K.wd]? = some (cs l.toArray[j / K.wd]!)[j % K.wd]! := by
    generalize l.toArray[j / K.wd]! = x
    rw [List.getElem?_eq_getElem (by rw [H.wd]; exact hr), getElem!_pos (cs x) _ (by rw [H.wd]; exact hr)]
  have h1 := H.cell h (toA hq) hv
  have h2 := H.open h (toA hq) hv
  rw [Nat.add_assoc, hdm] at h1 h2
  exact ⟨h1, h2⟩
theorem PlainK.ofHoldsK (H : PlainK K cs ok) {w : World} {S : Nat → Prop} {b off n c : Nat} {l : List α} (h : HoldsK cs K.wd w b off l.toArray) (hb : b < w.heap.size) (hS : S b) (hn : n = l.length) (hc : n ≤ c) (hm : l.length ≤ 2 ^ 30) (hk : ∀ x ∈ l, ok x) : (kRow K).is true w S [.slice (some ⟨b, off, none⟩) n c] l := by
  refine H.shut (fun i x hx j v hj => ?_) hb hS hn hc hm hk
  have hi := (List.getElem?_eq_some_iff.1 hx).1
  have hj2 : j < K.wd := by rw [← H.wd x]; exact (List.getElem?_eq_some_iff.1 hj).1
  have := h.cell (i := i) (c := j) (by simpa using hi) hj2
  have e0 := toA hi
  rw [hx] at e0
  injection e0 with e0
  rw [← e0] at this
  have e : (cs x)[j]! = v := by
    rw [getElem!_pos (cs x) j (by rw [H.wd]; exact hj2)]
    exact (List.getElem?_eq_some_iff.1 hj).2
  rw [e] at this
  exact this
theorem PlainK.holds (H : PlainK K cs ok) {enc : α → Value} (he : ∀ x, cs x = [enc x]) (h1 : K.wd = 1) {w : World} {S : Nat → Prop} {b off n c : Nat} {l : List α} (h : (kRow K).is true w S [.slice (some ⟨b, off, none⟩) n c] l) : Holds enc w b off l.toArray := by
  intro j hj
  have hj' : j < l.length := by simpa using hj
  have hv : (cs l.toArray[j]!)[0]? = some (enc l.toArray[j]!) := by rw [he]; rfl
  have h2 := H.cell h (toA hj') hv
  have h3 := H.open h (toA hj') hv
  rw [h1, show off + j * 1 + 0 = off + j by omega] at h2 h3
  exact ⟨h2, h3⟩
theorem PlainK.ofHolds (H : PlainK K cs ok) {enc : α → Value} (he : ∀ x, cs x = [enc x]) (h1 : K.wd = 1) {w : World} {S : Nat → Prop} {b off n c : Nat} {l m : List α} (h : Holds enc w b off (l ++ m).toArray) (hb : b < w.heap.size) (hS : S b) (hn : n = l.length) (hc : n ≤ c) (hm : l.length ≤ 2 ^ 30) (hk : ∀ x ∈ l, ok x) : (kRow K).is true w S [.slice (some ⟨b, off, none⟩) n c] l := by
  refine H.shut (fun i x hx j v hj => ?_) hb hS hn hc hm hk
  have hi := (List.getElem?_eq_some_iff.1 hx).1
  rw [he] at hj
  have hj0 : j = 0 := by have := (List.getElem?_eq_some_iff.1 hj).1; simp at this; exact this
  subst hj0
  have e : enc x = v := by simpa using hj
  have := h i (by simp; omega)
  have hx2 : (l ++ m)[i]? = some x := by rw [List.getElem?_append_left hi]; exact hx
  have e0 := toA (l := l ++ m) (i := i) (by simp; omega)
  rw [hx2] at e0
  injection e0 with e0
  rw [← e0, e] at this
  rw [h1, show off + i * 1 + 0 = off + i by omega]
  exact this
end

theorem putRow_kept {α : Type} [Inhabited α] (enc : α → Value) (w : World) (b off m : Nat) (d : Array α) (os : Array Obj) : KeptO (fun k => k = b) w (grow (putRow enc (Sort.ahead w m) b off d) os) := by
  refine ⟨rfl, rfl, rfl, ?_, fun k hk hn => ?_⟩
  · unfold grow putRow mapBlock Sort.ahead
    simp
  · unfold grow putRow mapBlock
    show (_ ++ os)[k]? = _
    rw [Array.getElem?_append_left (by simpa [Sort.ahead] using hk)]
    simp [Sort.ahead]
    rw [Array.getElem?_modify, if_neg (fun e => hn e.symm)]

/-- Texts as lists of bytes. -/
def kTx : Kd (List UInt8) where
  wd := 1
  is _ _ _ vs d := vs = [encStr d] ∧ d.length ≤ 2 ^ 30
  sz d := d.length
  cnt _ := 1
  mrk d _ := d
  len h := by rw [h.1]; rfl
  keep h _ _ := h
  read h := h
  tight h _ := h
def txC (x : List UInt8) : List Value := [encStr x]
theorem kTx_plain : PlainK kTx txC (fun x => x.length ≤ 2 ^ 30) where
  is := Iff.rfl
  wd _ := rfl
  pos := Nat.one_pos
  one x u hu := by simp [txC] at hu; rw [hu]; rfl
/-- Pairs of numbers, one array. -/
def kPr : Kd (Int × Int) where
  wd := 2
  is _ _ _ vs d := vs = [.int .i64 d.1, .int .i64 d.2] ∧ IntOk d.1 ∧ IntOk d.2
  sz _ := 0
  cnt _ := 2
  mrk d _ := d
  len h := by rw [h.1]; rfl
  keep h _ _ := h
  read h := h
  tight h _ := h
def prC (x : Int × Int) : List Value := [.int .i64 x.1, .int .i64 x.2]
theorem kPr_plain : PlainK kPr prC (fun x => IntOk x.1 ∧ IntOk x.2) where
  is := Iff.rfl
  wd _ := rfl
  pos := Nat.two_pos
  one x u hu := by simp [prC] at hu; rcases hu with rfl | rfl <;> rfl
theorem kInt_plain : PlainK kInt inC IntOk where
  is := Iff.rfl
  wd _ := rfl
  pos := Nat.one_pos
  one := inC_one
end Go.Proofs.Ytkboblfjchkedaa
