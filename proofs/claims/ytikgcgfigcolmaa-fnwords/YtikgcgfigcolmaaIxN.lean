/- Words of texts and where they stand: what the program's loops keep. No condition. -/
import Derived.Test.YtikgcgfigcolmaaIxW
import Derived.Test.YtikgcgfigcolmaaWdI
namespace Go.Proofs.Ytikgcgfigcolmaa
open Go.RowKit Go.Maps
set_option linter.unusedVariables false

/-- Counts, as they lie in a map. -/
def vI (p : ByteArray × Int) : ByteArray × Value := (p.1, .int .i64 p.2)
theorem insK_map {β γ : Type} (f : β → γ) (p : ByteArray × β) : ∀ l : List (ByteArray × β), insK (p.1, f p.2) (l.map fun q => (q.1, f q.2)) = (insK p l).map fun q => (q.1, f q.2)
  | [] => rfl
  | q :: r => by
    rw [List.map_cons, insK, insK]
    by_cases h : lessB p.1 q.1 = true
    · rw [if_pos h, if_pos h]
      rfl
    · rw [if_neg h, if_neg h, insK_map f p r]
      rfl
theorem setK_vI (x : ByteArray) (n : Int) (l : List (ByteArray × Int)) : setK x (.int .i64 n) (l.map vI) = (setK x n l).map vI := by
  unfold setK
  have := insK_map (fun n : Int => Value.int .i64 n) (x, n) (l.filter (fun p => !decide (p.1 = x)))
  rw [show (fun q : ByteArray × Int => (q.1, Value.int .i64 q.2)) = vI from rfl] at this
  rw [← this, List.filter_map]
  rfl
theorem getD_vI (x : ByteArray) (l : List (ByteArray × Int)) : getD x (.int .i64 0) (l.map vI) = .int .i64 (getD x 0 l) := by
  unfold getD getK
  induction l with
  | nil => rfl
  | cons p r ih =>
    simp only [List.map_cons, List.find?_cons]
    have e : decide ((vI p).1 = x) = decide (p.1 = x) := rfl
    rw [e]
    cases decide (p.1 = x) with
    | true => rfl
    | false => exact ih
theorem insK_len {β : Type} (p : ByteArray × β) : ∀ l : List (ByteArray × β), (insK p l).length = l.length + 1
  | [] => rfl
  | q :: r => by
    rw [insK]
    split
    · simp
    · simp [insK_len p r]
theorem setK_len {β : Type} (x : ByteArray) (v : β) (l : List (ByteArray × β)) : (setK x v l).length ≤ l.length + 1 := by
  unfold setK
  rw [insK_len]
  have := List.length_filter_le (fun p : ByteArray × β => !decide (p.1 = x)) l
  omega
theorem cnts_len (ws : List ByteArray) : (cntsOf ws).length ≤ ws.length := by
  have key : ∀ (ws : List ByteArray) (cs : List (ByteArray × Int)), (ws.foldl cnt1 cs).length ≤ cs.length + ws.length := by
    intro ws
    induction ws with
    | nil => intro cs; simp
    | cons x r ih =>
      intro cs
      have h1 := ih (cnt1 cs x)
      have h2 : (cnt1 cs x).length ≤ cs.length + 1 := setK_len _ _ _
      simp only [List.foldl_cons, List.length_cons]
      omega
  have := key ws []
  simpa [cntsOf] using this
theorem postW_len (t : Int) (cs : List (ByteArray × Int)) : ∀ es : List DEntry, (cs.foldl (postW t) es).length ≤ es.length + cs.length := by
  induction cs with
  | nil => intro es; simp
  | cons p r ih =>
    intro es
    have h1 := ih (postW t es p)
    have h2 : (postW t es p).length ≤ es.length + 1 := setK_len _ _ _
    simp only [List.foldl_cons, List.length_cons]
    omega
theorem text_len (t : Int) (ws : List ByteArray) : ∀ es : List DEntry, (textIx t es ws).length ≤ es.length + ws.length := by
  unfold textIx
  induction ws with
  | nil => intro es; simp
  | cons p r ih =>
    intro es
    have h1 := ih (cntW t es p)
    have h2 : (cntW t es p).length ≤ es.length + 1 := setK_len _ _ _
    simp only [List.foldl_cons, List.length_cons]
    omega
theorem ix_len {l : List ByteArray} (h : ∀ s ∈ l, s.size ≤ 200) : ∀ k, k ≤ l.length → (ixOf (l.take k)).length ≤ 100 * k
  | 0, _ => by simp [ixOf, ixGo]
  | k + 1, hk => by
    have hx : l[k]? = some l[k] := List.getElem?_eq_getElem hk
    rw [ixOf_next hx]
    have h1 := ix_len h k (by omega)
    have h2 := text_len k (wordsB l[k]) (ixOf (l.take k))
    have h3 := words_few (h _ (List.getElem_mem hk))
    omega
theorem cnts_next {ws : List ByteArray} {j : Nat} {x : ByteArray} (h : ws[j]? = some x) : cntsOf (ws.take (j + 1)) = setK x (getD x 0 (cntsOf (ws.take j)) + 1) (cntsOf (ws.take j)) := by
  rw [List.take_add_one, h]
  show cntsOf (ws.take j ++ [x]) = _
  rw [cntsOf_snoc]
  rfl
theorem cnts_get (ws : List ByteArray) (x : ByteArray) : getD x 0 (cntsOf ws) = (cntB x ws : Int) := by
  unfold getD
  rw [cnt_get]
  by_cases h : cntB x ws = 0 <;> simp [h]
theorem cntB_le (ws : List ByteArray) (x : ByteArray) : cntB x ws ≤ ws.length := List.countP_le_length
theorem post_next {t : Int} {es : List DEntry} {cs : List (ByteArray × Int)} {j : Nat} {x : ByteArray} {c : Int} (h : cs[j]? = some (x, c)) : (cs.take (j + 1)).foldl (postW t) es = setK x (getD x [] ((cs.take j).foldl (postW t) es) ++ [(t, c)]) ((cs.take j).foldl (postW t) es) := by
  rw [List.take_add_one, h]
  show (cs.take j ++ [(x, c)]).foldl (postW t) es = _
  rw [List.foldl_append]
  rfl
theorem grown_kept {w w' : World} {b : Nat} (h : w.grownBy w' (some b)) : KeptO (fun q => q = b) w w' := ⟨h.os, h.tape, h.output, h.size, fun k hk hn => h.block k hk (fun e => hn (by injection e))⟩
theorem KeptO.front {A B : Nat → Prop} {w0 w w' : World} (h : KeptO A w0 w) (k : KeptO B w w') (hs : ∀ q, q < w0.heap.size → B q → A q) : KeptO A w0 w' :=
  ⟨k.os.trans h.os, k.tape.trans h.tape, k.output.trans h.output, Nat.le_trans h.size k.size, fun q hq hn => (k.block q (Nat.lt_of_lt_of_le hq h.size) (fun e => hn (hs q hq e))).trans (h.block q hq hn)⟩
theorem MapAt.kept {w w' : World} {b : Nat} {L : List (ByteArray × Value)} {S : Nat → Prop} (h : MapAt w b L) (hk : KeptO S w w') (hn : ¬ S b) : MapAt w' b L := h.block (hk.block b h.lt hn)
theorem row_words {L : List (ByteArray × Value)} {cs : List (ByteArray × Int)} (h : L = cs.map vI) : L.map (·.1) = cs.map (·.1) := by
  rw [h, List.map_map]
  rfl
/-- What IndexOf answers. -/
def RIndexOf (x0 : List ByteArray) (w : World) (e : Ending) (w' : World) : Prop := ∃ (C0 : List Value) (T0 : Nat → Prop), e = .returned (.tuple #[.agg C0.toArray, .bool (fIndexOf x0).2]) ∧ kWords.is true w' T0 C0 (fIndexOf x0).1 ∧ (∀ k, T0 k → w.heap.size ≤ k) ∧ hWords_cnt (fIndexOf x0).1 ≤ 2 ^ 26 ∧ Below w.heap.size w w'
theorem RIndexOf.no {x0 : List ByteArray} {w w' : World} (h : ¬ (x0.length ≤ 40 ∧ (∀ s ∈ x0, s.size ≤ 200) ∧ (ixOf x0).length ≤ 200)) (hb : Below w.heap.size w w') : RIndexOf x0 w (.returned (.tuple #[.agg #[.int .i64 0, .slice none 0 0], .bool false])) w' := by
  unfold RIndexOf fIndexOf
  rw [if_neg h]
  refine ⟨[.int .i64 0, .slice none 0 0], fun _ => False, rfl, kWords_shut (by unfold IntOk; omega) (row_nil _ _ _ (fun _ => False) _ _) (fun k hk => hk), fun k hk => hk.elim, ?_, hb⟩
  show 0 + sums kEntry.cnt [] ≤ _
  simp [sums]
theorem ent_cnt {n : Nat} {es : List DEntry} (h : IxOk n es) (hn : n ≤ 40) (hl : es.length ≤ 200) : sums kEntry.cnt es ≤ 2 ^ 20 := by
  have hlen : ∀ (l : List DPosting) (last : Int), postOk n last l = true → -1 ≤ last → last < n → (l.length : Int) ≤ n - 1 - last := by
    intro l
    induction l with
    | nil => intro last _ h1 h2; simp; omega
    | cons q r ih =>
      intro last h0 h1 h2
      obtain ⟨t, m⟩ := q
      rw [postOk] at h0
      simp only [Bool.and_eq_true, decide_eq_true_eq] at h0
      have := ih t h0.2 (by omega) h0.1.2.1
      simp only [List.length_cons]
      omega
  have key : ∀ l : List DEntry, (∀ p ∈ l, kEntry.cnt p ≤ 81) → sums kEntry.cnt l ≤ 81 * l.length := by
    intro l
    induction l with
    | nil => intro _; simp [sums]
    | cons p r ih =>
      intro hp
      have h1 := hp p (by simp)
      have h2 := ih fun q hq => hp q (by simp [hq])
      simp only [sums, List.length_cons]
      omega
  have h1 := key es fun p hp => by
    obtain ⟨x, l⟩ := p
    show 1 + sums kPosting.cnt l ≤ 81
    rw [cnt_posts]
    have hpo := h.post x
    have e : getD x [] es = l := by unfold getD; rw [mem_getK h.rise (x := x) (v := l) hp]; rfl
    rw [e] at hpo
    by_cases hne : l = []
    · rw [hne]; simp
    · have h0 : (-1 : Int) < n := by omega
      have := hlen l (-1) hpo (by omega) h0
      omega
  omega
theorem RIndexOf.yes {x0 : List ByteArray} {w w' : World} {S : Nat → Prop} (h1 : x0.length ≤ 40) (h2 : ∀ s ∈ x0, s.size ≤ 200) (h3 : (ixOf x0).length ≤ 200) {a : Option Addr} {n c : Nat} (he : EB w' S (.slice a n c) (ixOf x0)) (hS : ∀ k, S k → w.heap.size ≤ k) (hb : Below w.heap.size w w') : RIndexOf x0 w (.returned (.tuple #[.agg #[.int .i64 x0.length, .slice a n c], .bool true])) w' := by
  have hk := ix_ok h2 x0.length (Nat.le_refl _)
  rw [List.take_length] at hk
  unfold RIndexOf fIndexOf
  rw [if_pos ⟨h1, h2, h3⟩]
  refine ⟨[.int .i64 x0.length, .slice a n c], S, rfl, kWords_shut (by unfold IntOk; omega) (he.row (ix_small hk h1 (by omega))) (fun k hk => hk), hS, ?_, hb⟩
  have := ent_cnt hk h1 h3
  show 0 + sums kEntry.cnt (ixOf x0) ≤ _
  omega
end Go.Proofs.Ytikgcgfigcolmaa
