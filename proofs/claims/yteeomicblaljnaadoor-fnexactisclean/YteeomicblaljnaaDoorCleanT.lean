/- A clean tree, and whether one is: the specification's l4Clean. -/
import Derived.Test.YteeomicblaljnaaDoorTreeD0
import Derived.Test.YteeomicblaljnaaDoorTrBld
namespace Go.Proofs.YteeomicblaljnaaDoor
open Go.RowKit
set_option linter.unusedVariables false

mutual
/-- No map outside of lists has a null. -/
def Tr.clean : Tr → Bool
  | .mk k _ _ _ ks => if k = 7 then Tr.cleans ks else true
def Tr.cleans : List Tr → Bool
  | [] => true
  | x :: l => ((x.kind != 1) && x.clean) && Tr.cleans l
end
theorem Tr.cleans_iff (l : List Tr) : Tr.cleans l = true ↔ ∀ x ∈ l, x.kind ≠ 1 ∧ x.clean = true := by
  induction l with
  | nil => simp [Tr.cleans]
  | cons a l ih =>
    rw [Tr.cleans, Bool.and_eq_true, Bool.and_eq_true, ih]
    simp
theorem Tr.cleans_take {ks : List Tr} {m : Nat} (h : ∀ i x, i < m → ks[i]? = some x → x.kind ≠ 1 ∧ x.clean = true) (hm : m = ks.length) : Tr.cleans ks = true := by
  rw [Tr.cleans_iff]
  intro x hx
  obtain ⟨i, hi, rfl⟩ := List.mem_iff_getElem.1 hx
  exact h i _ (by omega) (List.getElem?_eq_getElem hi)
theorem Tr.cleans_no {ks : List Tr} {m : Nat} {x : Tr} (hx : ks[m]? = some x) (h : x.kind = 1 ∨ x.clean = false) : Tr.cleans ks = false := by
  cases hc : Tr.cleans ks with
  | false => rfl
  | true =>
    have := (Tr.cleans_iff ks).1 hc x (List.mem_of_getElem? hx)
    rcases h with h | h
    · exact absurd h this.1
    · rw [h] at this; exact absurd this.2 (by simp)

def CleanSaid (t : Tr) : Prop := ∀ (v : Value) (w : World), Tree w t v → t.cnt ≤ 2 ^ 20 →
    Calls Tryd.prog 16 #[v] w fun e w' => e = .returned (.bool t.clean) ∧ Below w.heap.size w w'

set_option maxRecDepth 100000 in
set_option maxHeartbeats 2000000 in
theorem l4Clean_step (k n : Int) (t : ByteArray) (nm : List ByteArray) (ks : List Tr) (ih : ∀ x ∈ ks, CleanSaid x) : CleanSaid (.mk k n t nm ks) := by
  intro v w h hd
  obtain ⟨an, cn, ak, ck, rfl, _, hk⟩ := h.open
  have hcn : Tr.cnts ks ≤ 2 ^ 20 := by rw [Tr.cnt] at hd; omega
  have hkl := Tr.len_cnts ks
  have HIH : Hid (∀ x ∈ ks, CleanSaid x) := ih
  have HT : Hid (Tree w (.mk k n t nm ks) _) := h
  have HK : Hid (ks = [] ∨ ∃ g, ak = some ⟨g, 0, none⟩ ∧ g < w.heap.size ∧ ∀ i x, ks[i]? = some x → KidAt w (fun _ => True) x g i) := hk
  clear ih h hk
  by_cases h7 : k = 7
  · subst h7
    have HC : Hid (Tr.clean (.mk 7 n t nm ks) = Tr.cleans ks) := by show _ = _; rw [Tr.clean, if_pos rfl]
    go_enter Tryd.func16, Tryd.ntmps16
    go_wp2_with fail
    go_loopw [11] (fun i wr => ∃ m : Nat, m ≤ ks.length ∧ i = .int .i64 m ∧ Hid (∀ i x, i < m → ks[i]? = some x → x.kind ≠ 1 ∧ x.clean = true) ∧ Below (w.heap.size + 1) (w.alloc (.cells #[.int .i64 7, .int .i64 n, .string t, .slice an nm.length cn, .slice ak ks.length ck] 43)) wr) (fun i _ => ks.length - (intOf i).toNat)
    case atStart => exact ⟨0, Nat.zero_le _, rfl, fun i x h => by omega, Below.refl _ _⟩
    case round =>
      obtain ⟨m, hm, rfl, HALL, hnx⟩ := hrel
      have hz := hnx.size
      simp at hz
      have hwb : Below w.heap.size w wr := (show Below w.heap.size w _ by go_grown).trans (hnx.mono (by omega))
      have HW : Hid (Below w.heap.size w wr) := hwb
      by_cases hlt : m < ks.length
      · obtain ⟨x, hx⟩ : ∃ x, ks[m]? = some x := ⟨ks[m], List.getElem?_eq_getElem hlt⟩
        rcases HK.out with h0 | ⟨g, rfl, hg, hkid⟩
        · rw [h0] at hlt; simp at hlt
        obtain ⟨an', cn', ak', ck', c0, c1, c2, c3, c4, htr⟩ := ((hkid m x hx).keep (fun b' _ hl' => hwb.block b' hl') (fun _ _ _ => trivial) hwb.size (hwb.block g hg)).cells
        have HS : Hid (CleanSaid x) := HIH.out x (List.mem_of_getElem? hx)
        have hcx : x.cnt ≤ 2 ^ 20 := Nat.le_trans (Tr.cnt_mem (List.mem_of_getElem? hx)) hcn
        have HTR : Hid (Tree wr x (.agg #[.int .i64 x.kind, .int .i64 x.num, .string x.text, .slice an' x.names.length cn', .slice ak' x.kids.length ck'])) := htr
        have HX : Hid (ks[m]? = some x) := hx
        have j0 : (0 : Int) ≤ (m : Int) := by omega
        have j1 : (m : Int) < (ks.length : Int) := by omega
        have hgw : g < wr.heap.size := by omega
        have ha1 : ∀ o, Below w.heap.size w (wr.alloc o) := fun o => HW.out.trans (((Below.refl _ _).alloc (Nat.le_refl _) o).mono HW.out.size)
        clear hkid htr hwb hx
        by_cases h1 : x.kind = 1
        · have HR : Hid (Tr.clean (.mk 7 n t nm ks) = false) := HC.out.trans (Tr.cleans_no HX.out (.inl h1))
          rw [h1] at c0
          go_wp2_with fail
          go_ret
          exact ⟨by rw [HR.out]; rfl, ha1 _⟩
        · go_wp2_with fail
          refine (HS.out _ _ (HTR.out.below ((Below.refl _ _).alloc (Nat.le_refl _) _)) (by omega)).mono ?_
          rintro e w2 ⟨rfl, hb2⟩
          have HB2 : Hid (Below (w.heap.size + 1) (w.alloc (.cells #[.int .i64 7, .int .i64 n, .string t, .slice an nm.length cn, .slice (some ⟨g, 0, none⟩) ks.length ck] 43)) w2) := hnx.trans (((Below.refl _ _).alloc (Nat.le_refl _) _).mono (by omega) |>.trans (hb2.mono (by simp; omega)))
          have HB3 : Hid (Below w.heap.size w w2) := (ha1 _).trans (hb2.mono (ha1 _).size)
          clear hb2 hnx c0 c1 c2 c3 c4
          cases hcl : x.clean with
          | false =>
            have HR : Hid (Tr.clean (.mk 7 n t nm ks) = false) := HC.out.trans (Tr.cleans_no HX.out (.inr hcl))
            go_wp2_with fail
            go_ret
            exact ⟨by rw [HR.out]; rfl, HB3.out⟩
          | true =>
            have HA2 : Hid (∀ i x, i < m + 1 → ks[i]? = some x → x.kind ≠ 1 ∧ x.clean = true) := fun i y hi hy => by
              by_cases e : i = m
              · subst e
                obtain rfl := Option.some.inj (HX.out.symm.trans hy)
                exact ⟨h1, hcl⟩
              · exact HALL.out i y (by omega) hy
            go_wp2_with fail
            go_roundw
            case rel => exact ⟨m + 1, by omega, by go_num, HA2, HB2.out⟩
            case measure => simp [intOf]; omega
      · obtain rfl : m = ks.length := by omega
        have HR : Hid (Tr.clean (.mk 7 n t nm ks) = true) := HC.out.trans (Tr.cleans_take HALL.out rfl)
        go_wp2
        go_ret
        exact ⟨by rw [HR.out]; rfl, HW.out⟩
  · have HC : Hid (Tr.clean (.mk k n t nm ks) = true) := by show _ = _; rw [Tr.clean, if_neg h7]
    go_enter Tryd.func16, Tryd.ntmps16
    go_wp2
    go_ret
    exact ⟨by rw [HC.out]; rfl, (Below.refl _ _).alloc (Nat.le_refl _) _⟩

theorem l4Clean_any (t : Tr) : CleanSaid t := Tr.ind (P := CleanSaid) (fun k n t nm ks ih => l4Clean_step k n t nm ks ih) t

end Go.Proofs.YteeomicblaljnaaDoor
