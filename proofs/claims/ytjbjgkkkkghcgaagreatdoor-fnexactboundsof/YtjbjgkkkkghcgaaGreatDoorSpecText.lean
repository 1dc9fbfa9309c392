/- The specification's text of a value. -/
import Derived.Test.YtjbjgkkkkghcgaaGreatDoorQuote
namespace Go.Proofs.YtjbjgkkkkghcgaaGreatDoor
open Go.RowKit
set_option linter.unusedVariables false

/-- What a text asks of the nodes. -/
structure TOK (N : Nat → Nd) (n : Nat) : Prop where
  tb : TB N n
  kind : ∀ i, i < n → 1 ≤ (N i).kind ∧ (N i).kind ≤ 7
  num : ∀ i, i < n → -1000000000 ≤ (N i).num ∧ (N i).num ≤ 1000000000

theorem own_ints {w : World} {B : Nat} {v : Value} {l : List Nat} (h : w.ownsRow B 3 1 v l.length (intCells l)) :
    ∃ a cap, v = .slice a l.length cap ∧ (l = [] ∨ ∃ g, a = some ⟨g, 0, none⟩ ∧ B ≤ g ∧ g < w.heap.size ∧ ∀ j, j < l.length → w.cell? ⟨g, j, none⟩ = some (.int .i64 (l.getD j 0 : Nat))) := by
  have hlt := h.lt
  have hcells := @World.ownsRow.cells _ _ _ _ _ _ _ h
  obtain ⟨_, h0 | ⟨g, cap, cur, hv, hg, hh, _⟩⟩ := h
  · obtain ⟨hv, hx⟩ := h0
    have hl : l = [] := by simpa [intCells] using hx
    subst hl
    exact ⟨_, _, hv, .inl rfl⟩
  · refine ⟨_, _, hv, .inr ⟨g, rfl, hg, ?_, fun j hj => ?_⟩⟩
    · exact (hlt g (by rw [hv]; rfl)).2
    · have := hcells (g := g) (by rw [hv]; rfl) j (.int .i64 (l.getD j 0 : Nat)) (by simp [intCells, List.getElem?_eq_getElem hj, List.getD_eq_getElem?_getD])
      rw [show ((⟨g, 0, none⟩ : Addr).add j) = ⟨g, j, none⟩ by unfold Addr.add; split <;> simp_all] at this
      exact this

theorem inner_a {A P : List UInt8} : strL A ++ strL P = strL (A ++ ([] ++ ([] ++ P))) := by rw [strL_append]; rfl
theorem inner_b {A P : List UInt8} : strL A ++ ⟨#[44]⟩ ++ strL P = strL (A ++ ([44] ++ ([] ++ P))) := by
  show strL A ++ strL [44] ++ strL P = _
  rw [strL_append, strL_append]; congr 1; simp
theorem inner_c {A Q P : List UInt8} : strL A ++ (strL Q ++ ⟨#[58]⟩) ++ strL P = strL (A ++ ([] ++ ((Q ++ [58]) ++ P))) := by
  show strL A ++ (strL Q ++ strL [58]) ++ strL P = _
  rw [strL_append, strL_append, strL_append]; congr 1; simp
theorem inner_d {A Q P : List UInt8} : strL A ++ ⟨#[44]⟩ ++ (strL Q ++ ⟨#[58]⟩) ++ strL P = strL (A ++ ([44] ++ ((Q ++ [58]) ++ P))) := by
  show strL A ++ strL [44] ++ (strL Q ++ strL [58]) ++ strL P = _
  rw [strL_append, strL_append, strL_append, strL_append]; congr 1; simp
theorem whole_list {A : List UInt8} : (⟨#[91]⟩ : ByteArray) ++ strL A ++ ⟨#[93]⟩ = strL (91 :: (A ++ [93])) := by
  show strL [91] ++ strL A ++ strL [93] = _
  rw [strL_append, strL_append]; congr 1
theorem whole_map {A : List UInt8} : (⟨#[123]⟩ : ByteArray) ++ strL A ++ ⟨#[125]⟩ = strL (123 :: (A ++ [125])) := by
  show strL [123] ++ strL A ++ strL [125] = _
  rw [strL_append, strL_append]; congr 1

theorem ret_str {a b : ByteArray} (h : a = b) : Ending.returned (.string a) = .returned (.string b) := by rw [h]

set_option maxRecDepth 100000 in
set_option maxHeartbeats 2000000 in
theorem l1Text_leaf (a : Option Addr) (c n k : Nat) (N : Nat → Nd) (w : World) (hn : n ≤ 80) (hk : k < n) (h : ArgIs w a n N) (ht : TOK N n) (hl : ¬ ((N k).kind = 6 ∨ (N k).kind = 7)) :
    Calls Tryz.prog 41 #[.agg #[.slice a n c], .int .i64 k] w fun e w' => e = .returned (.string (strL (T N n k))) ∧ Below w.heap.size w w' := by
  rcases h with h0 | ⟨b, off, rfl, hb, hat⟩
  · omega
  obtain ⟨a0, a1, a2, a3, a4⟩ := hat k hk
  have i0 : (0 : Int) ≤ (k : Int) := by omega
  have i1 : (k : Int) < (n : Int) := by omega
  have kb := ht.kind k hk
  have nb := ht.num k hk
  have tb := ht.tb.text k hk
  have HT : Hid (TOK N n) := ht
  clear ht hat
  by_cases h4 : (N k).kind = 4
  · have HR : Hid (T N n k = Lib.itoa (N k).num) := T_num hk h4
    rw [h4] at a0
    clear h4 hl kb
    go_enter Tryz.func41, Tryz.ntmps41
    go_wp2_with fail
    refine (l1Int_any _ _ nb.1 nb.2).mono ?_
    rintro e w1 ⟨rfl, hb1⟩
    have HB : Hid (Below _ _ w1) := hb1
    clear hb1
    go_wp2
    go_ret
    exact ⟨ret_str (by rw [HR.out]), (show Below w.heap.size w _ by go_grown).trans (HB.out.mono (by simp; omega))⟩
  · by_cases h5 : (N k).kind = 5
    · have HR : Hid (T N n k = quoteL (N k).text) := T_text hk h5
      rw [h5] at a0
      clear h5 h4 hl kb
      go_enter Tryz.func41, Tryz.ntmps41
      go_wp2_with fail
      refine (l1Quote_any _ _ (by omega)).mono ?_
      rintro e w1 ⟨rfl, rfl⟩
      go_wp2
      go_ret
      exact ⟨ret_str (by rw [HR.out]), by go_grown⟩
    · have hr := T_word hk h4 h5 hl
      have h3 : (N k).kind = 1 ∨ (N k).kind = 2 ∨ (N k).kind = 3 := by omega
      rcases h3 with h3 | h3 | h3
      all_goals
        rw [h3] at a0 hr
        have HR : Hid (T N n k = _) := hr
        clear h3 h4 h5 hl kb hr
        go_enter Tryz.func41, Tryz.ntmps41
        go_wp2_with fail
        go_ret
        exact ⟨ret_str (by rw [HR.out]; rfl), by go_grown⟩

end Go.Proofs.YtjbjgkkkkghcgaaGreatDoor
