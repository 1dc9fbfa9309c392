/- Rows of pairs, and the limbs that the specification builds of them: l7Above, l7Build, l7Treap. -/
import Derived.Test.YtnmbnebofbdmfaaTpO
import Derived.Deep.Onto
namespace Go.Proofs.Ytnmbnebofbdmfaa
open Go.RowKit
set_option linter.unusedVariables false

def abB (a b : ByteArray) : Bool := decide (wt b < wt a) || (decide (wt a = wt b) && Op.bytesLess a.toList b.toList)
theorem abB_iff (a b : ByteArray) : abB a b = true ↔ Ab a b := by unfold abB Ab kLt; simp
theorem abB_no {a b : ByteArray} (h : Ab a b) : abB b a = false := by
  rw [← Bool.not_eq_true, abB_iff]
  exact h.asym
theorem abB_self (a : ByteArray) : abB a a = false := by
  rw [← Bool.not_eq_true, abB_iff]
  rintro (h | ⟨_, h⟩)
  · omega
  · exact kLt.irr _ h

set_option maxHeartbeats 1000000 in
theorem l7Above_any (a b : ByteArray) (w : World) (ha : a.size ≤ 2 ^ 20) (hb : b.size ≤ 2 ^ 20) :
    Calls Try.prog 36 #[.string a, .string b] w fun e w' => e = .returned (.bool (abB a b)) ∧ w' = w := by
  have h1 := wt_bounds a
  have h2 := wt_bounds b
  obtain ⟨x, hx⟩ : ∃ x, x = wt a := ⟨_, rfl⟩
  obtain ⟨y, hy⟩ : ∃ y, y = wt b := ⟨_, rfl⟩
  have HX : Hid (x = wt a ∧ y = wt b) := ⟨hx, hy⟩
  rw [← hx] at h1
  rw [← hy] at h2
  go_enter Try.func36, Try.ntmps36
  go_wp2_with fail
  refine (specWeight_any a _ (by omega)).mono ?_
  rintro e w1 ⟨rfl, rfl⟩
  rw [← hx]
  clear hx
  go_wp2_with fail
  refine (specWeight_any b _ (by omega)).mono ?_
  rintro e w1 ⟨rfl, rfl⟩
  rw [← hy]
  clear hy
  by_cases h3 : y < x
  · have HA : Hid (abB a b = true) := by show _ = _; unfold abB; rw [← HX.out.1, ← HX.out.2]; simp [h3]
    go_wp2
    go_ret
    exact ⟨by rw [HA.out]; rfl, rfl⟩
  · by_cases h4 : x = y
    · have HA : Hid (abB a b = Op.bytesLess a.toList b.toList) := by show _ = _; unfold abB; rw [← HX.out.1, ← HX.out.2]; simp [h4]
      subst h4
      go_wp2
      go_ret
      exact ⟨by rw [HA.out]; rfl, rfl⟩
    · have HA : Hid (abB a b = false) := by show _ = _; unfold abB; rw [← HX.out.1, ← HX.out.2]; simp [h3, h4]
      go_wp2
      go_ret
      exact ⟨by rw [HA.out]; show Ending.returned (Value.bool (decide (y < x))) = _; simp; omega, rfl⟩

/-- Pairs in a row. -/
def PAt (w : World) (b off : Nat) (l : List Pr) : Prop := ∀ i p, l[i]? = some p → w.cell? ⟨b, off + i * 2, none⟩ = some (.string p.1) ∧ w.cell? ⟨b, off + i * 2 + 1, none⟩ = some (.string p.2)
theorem PAt.left {w : World} {b off : Nat} {A C : List Pr} (h : PAt w b off (A ++ C)) : PAt w b off A := fun i p hp => h i p (by
  have : i < A.length := (List.getElem?_eq_some_iff.1 hp).1
  rw [List.getElem?_append_left this]; exact hp)
theorem PAt.right {w : World} {b off : Nat} {A C : List Pr} {x : Pr} (h : PAt w b off (A ++ x :: C)) : PAt w b (off + (A.length + 1) * 2) C := fun i p hp => by
  have := h (A.length + 1 + i) p (by
    rw [List.getElem?_append_right (by omega), show A.length + 1 + i - A.length = i + 1 by omega]
    simpa using hp)
  rw [show off + (A.length + 1) * 2 + i * 2 = off + (A.length + 1 + i) * 2 by omega]
  exact this
theorem PAt.far {w w' : World} {row : Option Nat} {b off : Nat} {l : List Pr} (h : PAt w b off l) (hg : w.grownBy w' row) (hlt : b < w.heap.size) (hne : some b ≠ row) : PAt w' b off l := fun i p hp =>
  ⟨(hg.cell_far ⟨b, _, none⟩ hlt hne).trans (h i p hp).1, (hg.cell_far ⟨b, _, none⟩ hlt hne).trans (h i p hp).2⟩
/-- The slice value v tells these pairs; they lie in a block that has X. -/
def PSrc (w : World) (v : Value) (l : List Pr) (X : Nat → Prop) : Prop := ∃ a c, v = .slice a l.length c ∧ l.length ≤ c ∧ (l = [] ∨ ∃ b off, a = some ⟨b, off, none⟩ ∧ b < w.heap.size ∧ X b ∧ PAt w b off l)
theorem PSrc.far {w w' : World} {v : Value} {l : List Pr} {X Y : Nat → Prop} {row : Option Nat} (h : PSrc w v l X) (hg : w.grownBy w' row) (hne : ∀ b, b < w.heap.size → X b → some b ≠ row ∧ Y b) : PSrc w' v l Y := by
  obtain ⟨a, c, rfl, hc, h0 | ⟨b, off, rfl, hb, hX, hat⟩⟩ := h
  · exact ⟨a, c, rfl, hc, .inl h0⟩
  · exact ⟨_, c, rfl, hc, .inr ⟨b, off, rfl, Nat.lt_of_lt_of_le hb hg.size, (hne b hb hX).2, hat.far hg hb (hne b hb hX).1⟩⟩

/-- What l7Build answers. -/
def BuildSaid (t : Bt) : Prop := ∀ (pv lv : Value) (L : List Lb) (B : Nat) (w : World), PSrc w pv t.ino (fun b => some b ≠ lv.ownBlock) → t.ok → (∀ p ∈ t.ino, p.1.size ≤ 2 ^ 20) → OwnsL w B lv L → B ≤ w.heap.size → L.length + t.sz ≤ 2 ^ 20 →
    Calls Try.prog 25 #[pv, lv] w fun e w' => ∃ lv', e = .returned (.tuple #[.int .i64 (t.top L.length), lv']) ∧ OwnsL w' B lv' (L ++ t.limbs L.length) ∧ w.grownBy w' lv.ownBlock ∧ MovedT w.heap.size lv lv'

set_option maxRecDepth 100000 in
set_option maxHeartbeats 4000000 in
theorem build_node (b0 : Nat) (k v : ByteArray) (l r : Bt) (ihl : BuildSaid l) (ihr : BuildSaid r) : BuildSaid (.node b0 k v l r) := by
  intro pv lv L B w h hok hks hown hB hlen
  obtain ⟨pa, pc, rfl, hpc, hsrc⟩ := h
  rcases hsrc with h0 | ⟨b, off, rfl, hb, hX, hat⟩
  · simp [Bt.ino] at h0
  obtain ⟨la, lc, rfl⟩ := hown.form
  have hsz : L.length + 1 + l.sz + r.sz ≤ 2 ^ 20 := by rw [Bt.sz] at hlen; omega
  have hnn : (Bt.node b0 k v l r).ino.length = l.sz + 1 + r.sz := by rw [Bt.ino_len, Bt.sz]; omega
  obtain ⟨n, hn⟩ : ∃ n, n = (Bt.node b0 k v l r).ino.length := ⟨_, rfl⟩
  have hn' : n = l.sz + 1 + r.sz := by omega
  rw [← hn] at hpc ⊢
  have HAT : Hid (PAt w b off (Bt.node b0 k v l r).ino) := hat
  have HOK : Hid ((Bt.node b0 k v l r).ok ∧ ∀ p ∈ (Bt.node b0 k v l r).ino, p.1.size ≤ 2 ^ 20) := ⟨hok, hks⟩
  have HO : Hid (OwnsL w B (.slice la L.length lc) L) := hown
  have HXB : Hid (some b ≠ (Value.slice la L.length lc).ownBlock) := hX
  obtain ⟨iN, hi, hz0, hz1, hz2⟩ := info_parts infoLimb4
  have HI : Hid (Try.prog.info? 55 = some iN ∧ iN.zero = some (.agg #[.string ⟨#[]⟩, .string ⟨#[]⟩, .int .i64 0, .int .i64 0]) ∧ iN.size = 4 ∧ iN.bytes = 48) := ⟨hi, hz0, hz1, hz2⟩
  have HN : Hid (n = (Bt.node b0 k v l r).ino.length) := hn
  obtain ⟨p, hp⟩ : ∃ p, p = l.sz := ⟨_, rfl⟩
  have HP : Hid (∀ i q, (Bt.node b0 k v l r).ino[i]? = some q → (i = p → q = (k, v)) ∧ (i ≠ p → Ab k q.1)) := fun i q hq => by
    obtain ⟨_, h1, h2, _⟩ := hok
    rw [Bt.ino] at hq
    have hll : l.ino.length = p := by rw [Bt.ino_len, hp]
    rcases Nat.lt_trichotomy i p with hlt | rfl | hgt
    · rw [List.getElem?_append_left (by omega)] at hq
      exact ⟨fun e => by omega, fun _ => h1 q (List.mem_of_getElem? hq)⟩
    · rw [List.getElem?_append_right (by omega), hll, Nat.sub_self] at hq
      simp at hq
      exact ⟨fun _ => hq.symm, fun e => absurd rfl e⟩
    · rw [List.getElem?_append_right (by omega), hll, show i - p = (i - p - 1) + 1 by omega] at hq
      simp at hq
      exact ⟨fun e => by omega, fun _ => h2 q (List.mem_of_getElem? hq)⟩
  have HCL : Hid (∀ wr, Below w.heap.size w wr → ∀ i, i < n → ∃ q : Pr, (Bt.node b0 k v l r).ino[i]? = some q ∧ wr.cell? ⟨b, off + i * 2, none⟩ = some (.string q.1) ∧ wr.cell? ⟨b, off + i * 2 + 1, none⟩ = some (.string q.2) ∧ q.1.size ≤ 2 ^ 20) := fun wr hb' i hi => by
    have hi' : i < (Bt.node b0 k v l r).ino.length := by rw [← hn]; exact hi
    have hq := List.getElem?_eq_getElem hi'
    exact ⟨_, hq, (hb'.cell hb).trans (hat i _ hq).1, (hb'.cell hb).trans (hat i _ hq).2, hks _ (List.getElem_mem hi')⟩
  have hn20 : n ≤ 2 ^ 20 := by omega
  have hpn : p < n := by omega
  have n0 : ¬ (n : Int) = 0 := by omega
  have HN2 : Hid (n = l.sz + 1 + r.sz ∧ p = l.sz) := ⟨hn', hp⟩
  clear hat hok hks hown hX hi hz0 hz1 hz2 hlen hn hnn hn' hp
  go_enter Try.func25, Try.ntmps25
  go_wp2_with fail
  go_loopw [6, 17] (fun tv iv wr => ∃ t i : Nat, i ≤ n ∧ tv = .int .i64 t ∧ iv = .int .i64 i ∧ t ≤ p ∧ (p < i → t = p) ∧ Below w.heap.size w wr) (fun _ iv _ => n - (intOf iv).toNat)
  case atStart => exact ⟨0, 0, Nat.zero_le _, rfl, rfl, Nat.zero_le _, fun h => by omega, Below.refl _ _⟩
  case round =>
    obtain ⟨t, i, hin, rfl, rfl, htp, hti, hbr⟩ := hrel
    by_cases hlt : i < n
    · obtain ⟨qi, hqi, ci, _, si⟩ := HCL.out wr hbr i hlt
      obtain ⟨qt, hqt, ct, _, st⟩ := HCL.out wr hbr t (by omega)
      have HBR : Hid (Below w.heap.size w wr) := hbr
      have j0 : (0 : Int) ≤ (i : Int) := by omega
      have j1 : (i : Int) < (n : Int) := by omega
      have j2 : (0 : Int) ≤ (t : Int) := by omega
      have j3 : (t : Int) < (n : Int) := by omega
      have hab : (abB qi.1 qt.1 = true → (i ≤ p)) ∧ (i = p → t ≠ p → abB qi.1 qt.1 = true) := by
        have h1 := HP.out i qi hqi
        have h2 := HP.out t qt hqt
        constructor
        · intro hh
          rcases Nat.lt_or_ge p i with hgt | hle
          · have := h2.1 (hti hgt)
            subst this
            rw [abB_no (h1.2 (by omega))] at hh
            cases hh
          · exact hle
        · rintro rfl hne
          have := h1.1 rfl
          subst this
          exact (abB_iff _ _).2 (h2.2 hne)
      obtain ⟨q, hq⟩ : ∃ q, q = abB qi.1 qt.1 := ⟨_, rfl⟩
      have HAB : Hid ((q = true → i ≤ p) ∧ (i = p → t ≠ p → q = true)) := by rw [hq]; exact hab
      clear hab hqi hqt hbr
      have HQ := l7Above_any qi.1 qt.1
      rw [← hq] at HQ
      clear hq
      go_wp2_with fail
      go_quiet ((go_at_call 36; exact Calls.quiet_of_same (HQ _ si st)))
      cases q with
      | true =>
        have hip := HAB.out.1 rfl
        go_wp2
        go_roundw
        case rel => exact ⟨i, i + 1, by omega, rfl, by go_num, hip, fun h => by omega, drewN_belowT HBR.out _⟩
        case measure => simp [intOf]; omega
      | false =>
        have hip : p < i + 1 → t = p := fun h => by
          rcases Nat.lt_or_ge p i with hgt | hle
          · exact hti hgt
          · by_cases hne : t = p
            · exact hne
            · have := HAB.out.2 (by omega) hne
              cases this
        go_wp2
        go_roundw
        case rel => exact ⟨t, i + 1, by omega, rfl, by go_num, htp, hip, drewN_belowT HBR.out _⟩
        case measure => simp [intOf]; omega
    · have e1 : t = p := hti (by omega)
      subst e1
      have hg0 : w.grownBy wr none := ⟨hbr.os, hbr.tape, hbr.output, hbr.size, fun k hk _ => hbr.block k hk⟩
      obtain ⟨qt, hqt, c0, c1, _⟩ := HCL.out wr hbr t hpn
      have := (HP.out t qt hqt).1 rfl
      subst this
      dsimp only at c0 c1
      have zr := hbr.size
      have j2 : (0 : Int) ≤ (t : Int) := by omega
      have j3 : (t : Int) < (n : Int) := by omega
      have HO1 : Hid (OwnsL wr B (.slice la L.length lc) L) := World.ownsRow.kept HO.out hg0 (by cases la <;> simp [Value.ownBlock])
      have HBR : Hid (Below w.heap.size w wr) := hbr
      have hbw : b < wr.heap.size := by omega
      have j4 : ¬ (i : Int) < (n : Int) := by omega
      clear hbr hg0 hqt HCL hti htp hin
      go_upto_region 11 with fail
      go_cut [1] (fun q wx => ∃ (g1 cap1 : Nat), q = .slice (some ⟨g1, 0, none⟩) (L.length + 1) cap1 ∧ Hid (OwnsL wx B (.slice (some ⟨g1, 0, none⟩) (L.length + 1) cap1) (L ++ [⟨k, v, 0, 0⟩]) ∧ wr.grownBy wx (Value.slice la L.length lc).ownBlock ∧ MovedT wr.heap.size (.slice la L.length lc) (.slice (some ⟨g1, 0, none⟩) (L.length + 1) cap1)))
      case first =>
        have HON : Hid (∀ o, (wr.alloc o).drew.ownsRow B 55 4 (.slice la L.length lc) L.length (lbCells L)) := fun o => World.ownsRow.drew (World.ownsRow.alloc HO1.out o)
        have HNW : Hid (∀ T : TypeId, ∀ (j : Nat) (u : Value), [Value.string k, .string v, .int .i64 0, .int .i64 0][j]? = some u → (wr.alloc (.cells #[.string k, .string v, .int .i64 0, .int .i64 0] T)).drew.cell? ((⟨wr.heap.size, 0, none⟩ : Addr).add j) = some u) := fun T => lb_news wr k v 0 0 T wr.heap.size rfl
        go_region_law (refine step_append_lies _ (by rfl) _ _ 26 (by rfl) B 55 iN _ 4 48 Try.underlying26 HI.out.1 HI.out.2.1 HI.out.2.2.1 HI.out.2.2.2 rfl (by decide) (.slice la L.length lc) L.length (lbCells L) (by rfl) (HON.out _) ⟨wr.heap.size, 0, none⟩ 1 1 [.string k, .string v, .int .i64 0, .int .i64 0] (by rfl) rfl (HNW.out _) (lb_one k v 0 0) (by decide) (by unfold maxLen; omega) (by omega) (by show B ≤ (wr.alloc _).heap.size; rw [World.size_alloc]; omega) (wr.heap.size + 1) (World.size_alloc wr _) ?_; intro g5 cap5 w5 hown5 hgrow5 hat5 hlt5)
        all_goals
          have HQ : Hid (OwnsL w5 B (.slice (some ⟨g5, 0, none⟩) (L.length + 1) cap5) (L ++ [⟨k, v, 0, 0⟩]) ∧ wr.grownBy w5 (Value.slice la L.length lc).ownBlock ∧ MovedT wr.heap.size (.slice la L.length lc) (.slice (some ⟨g5, 0, none⟩) (L.length + 1) cap5)) := by
            refine ⟨?_, ?_, ?_⟩
            · unfold OwnsL
              rw [lb_snoc, List.length_append]
              exact hown5
            · exact grown_past hgrow5
            · rcases hat5 with e | e
              · exact .inl e.symm
              · exact .inr ⟨g5, rfl, by omega⟩
          clear hown5 hgrow5 hat5 hlt5
          go_wp2_with fail
          go_meet
          case rel => exact ⟨g5, cap5, rfl, HQ⟩
      case rest =>
        obtain ⟨g1, cap1, rfl, HQ⟩ := hcut
        have hg0 : w.grownBy wr none := ⟨HBR.out.os, HBR.out.tape, HBR.out.output, HBR.out.size, fun k hk _ => HBR.out.block k hk⟩
        have HS1 : Hid (PAt wc b off (l.ino ++ (k, v) :: r.ino) ∧ some b ≠ (Value.slice (some ⟨g1, 0, none⟩) (L.length + 1) cap1).ownBlock ∧ b < wc.heap.size) :=
          ⟨(HAT.out.far hg0 hb (by simp)).far HQ.out.2.1 hbw HXB.out, HQ.out.2.2.ne hbw HXB.out, Nat.lt_of_lt_of_le hbw HQ.out.2.1.size⟩
        have zc := HQ.out.2.1.size
        have HLC : Hid ((L ++ [(⟨k, v, 0, 0⟩ : Lb)]).length = L.length + 1) := by show _ = _; simp
        have HOL : Hid ((l.ok ∧ (∀ p ∈ l.ino, p.1.size ≤ 2 ^ 20)) ∧ (r.ok ∧ (∀ p ∈ r.ino, p.1.size ≤ 2 ^ 20))) := by
          obtain ⟨⟨h1, h2, h3, h4, h5⟩, h6⟩ := HOK.out
          rw [Bt.ino, srt_node] at h1
          exact ⟨⟨⟨h1.1, h4⟩, fun p hp => h6 p (by simp [Bt.ino, hp])⟩, ⟨⟨h1.2.1, h5⟩, fun p hp => h6 p (by simp [Bt.ino, hp])⟩⟩
        have j5 : (t : Int) ≤ (pc : Int) := by omega
        clear hg0 c0 c1
        go_wp2_with fail
        have hll : l.ino.length = t := by rw [Bt.ino_len, HN2.out.2]
        have hrl : r.ino.length = n - (t + 1) := by rw [Bt.ino_len]; have := HN2.out; omega
        have HLL : Hid (l.ino.length = t ∧ r.ino.length = n - (t + 1)) := ⟨hll, hrl⟩
        clear hll hrl
        refine (ihl _ _ (L ++ [⟨k, v, 0, 0⟩]) B wc ⟨some ⟨b, off, none⟩, pc, by rw [HLL.out.1], by rw [HLL.out.1]; omega, .inr ⟨b, off, rfl, HS1.out.2.2, HS1.out.2.1, HS1.out.1.left⟩⟩ HOL.out.1.1 HOL.out.1.2 HQ.out.1 (by omega) (by rw [HLC.out]; omega)).mono ?_
        rintro e w2 ⟨lv2, rfl, ho2, hg2, hm2⟩
        rw [HLC.out] at ho2
        have HQ2 : Hid (OwnsL w2 B lv2 (L ++ [⟨k, v, 0, 0⟩] ++ l.limbs (L.length + 1)) ∧ wc.grownBy w2 (Value.slice (some ⟨g1, 0, none⟩) (L.length + 1) cap1).ownBlock ∧ MovedT wc.heap.size (.slice (some ⟨g1, 0, none⟩) (L.length + 1) cap1) lv2) := ⟨ho2, hg2, hm2⟩
        obtain ⟨la2, lc2, rfl⟩ := ho2.form
        have HL2 : Hid ((L ++ [(⟨k, v, 0, 0⟩ : Lb)] ++ l.limbs (L.length + 1)).length = L.length + 1 + l.sz) := by show _ = _; rw [List.length_append, HLC.out, Bt.limbs_len]
        rw [HLC.out]
        have HS2 : Hid (PAt w2 b off (l.ino ++ (k, v) :: r.ino) ∧ some b ≠ (Value.slice la2 (L ++ [(⟨k, v, 0, 0⟩ : Lb)] ++ l.limbs (L.length + 1)).length lc2).ownBlock ∧ b < w2.heap.size) :=
          ⟨HS1.out.1.far HQ2.out.2.1 HS1.out.2.2 HS1.out.2.1, HQ2.out.2.2.ne HS1.out.2.2 HS1.out.2.1, Nat.lt_of_lt_of_le HS1.out.2.2 HQ2.out.2.1.size⟩
        have z2 := HQ2.out.2.1.size
        obtain ⟨n2, hn2⟩ : ∃ n, n = (L ++ [(⟨k, v, 0, 0⟩ : Lb)] ++ l.limbs (L.length + 1)).length := ⟨_, rfl⟩
        rw [← hn2] at HQ2 HS2 ⊢
        clear ho2 hg2 hm2 hn2
        obtain ⟨lt, hlt'⟩ : ∃ t, t = l.top (L.length + 1) := ⟨_, rfl⟩
        have HLT : Hid (lt = l.top (L.length + 1)) := hlt'
        rw [← hlt']
        clear hlt'
        have j6 : ((t : Int) + 1) ≤ (n : Int) := by omega
        have j7 : (n : Int) ≤ (pc : Int) := by omega
        go_wp2_with fail
        all_goals
          refine (ihr _ _ (L ++ [⟨k, v, 0, 0⟩] ++ l.limbs (L.length + 1)) B w2 ?_ HOL.out.2.1 HOL.out.2.2 HQ2.out.1 (by omega) (by rw [HL2.out]; omega)).mono ?_
          · first
              | exact ⟨_, _, by rw [HLL.out.2], by rw [HLL.out.2]; omega, .inr ⟨b, off + (t + 1) * 2, rfl, HS2.out.2.2, HS2.out.2.1, by have := HS2.out.1.right; rwa [HLL.out.1] at this⟩⟩
              | exact ⟨_, _, by rw [HLL.out.2], by rw [HLL.out.2]; omega, .inl (List.eq_nil_of_length_eq_zero (by rw [HLL.out.2]; omega))⟩
          rintro e w3 ⟨lv3, rfl, ho3, hg3, hm3⟩
          rw [HL2.out] at ho3 ⊢
          obtain ⟨R, hR⟩ : ∃ R, R = l.limbs (L.length + 1) ++ r.limbs (L.length + 1 + l.sz) := ⟨_, rfl⟩
          have hM : L ++ [(⟨k, v, 0, 0⟩ : Lb)] ++ l.limbs (L.length + 1) ++ r.limbs (L.length + 1 + l.sz) = L ++ ⟨k, v, 0, 0⟩ :: R := by rw [hR]; simp
          have HR : Hid (R = l.limbs (L.length + 1) ++ r.limbs (L.length + 1 + l.sz)) := hR
          rw [hM] at ho3
          obtain ⟨g3, cap3, rfl, hb3, hlt3⟩ := World.ownsRow.form ho3 (by simp; omega)
          have hget := lb_get (L ++ ⟨k, v, 0, 0⟩ :: R) L.length ⟨k, v, 0, 0⟩ (by simp)
          have c2 : w3.cell? ⟨g3, L.length * 4 + 2, none⟩ = some (.int .i64 0) := (World.ownsRow.cellAt ho3 _ (by simp; omega)).trans hget.2.2.1
          have c3 : w3.cell? ⟨g3, L.length * 4 + 3, none⟩ = some (.int .i64 0) := (World.ownsRow.cellAt ho3 _ (by simp; omega)).trans hget.2.2.2
          have q2 : w3.frozen? ⟨g3, L.length * 4 + 2, none⟩ = false := World.ownsRow.frozenAt ho3 _
          have q3 : w3.frozen? ⟨g3, L.length * 4 + 3, none⟩ = false := World.ownsRow.frozenAt ho3 _
          have HQ3 : Hid (OwnsL w3 B (.slice (some ⟨g3, 0, none⟩) (L ++ (⟨k, v, 0, 0⟩ : Lb) :: R).length cap3) (L ++ ⟨k, v, 0, 0⟩ :: R) ∧ w2.grownBy w3 (Value.slice la2 n2 lc2).ownBlock ∧ MovedT w2.heap.size (.slice la2 n2 lc2) (.slice (some ⟨g3, 0, none⟩) (L ++ (⟨k, v, 0, 0⟩ : Lb) :: R).length cap3)) := ⟨ho3, hg3, hm3⟩
          obtain ⟨n3, hn3⟩ : ∃ n, n = (L ++ (⟨k, v, 0, 0⟩ : Lb) :: R).length := ⟨_, rfl⟩
          have HN3 : Hid (n3 = (L ++ (⟨k, v, 0, 0⟩ : Lb) :: R).length) := hn3
          have i1 : (L.length : Int) < (n3 : Int) := by rw [hn3]; simp; omega
          have i0 : (0 : Int) ≤ (L.length : Int) := by omega
          rw [← hn3] at HQ3 ⊢
          obtain ⟨rt, hrt⟩ : ∃ t, t = r.top (L.length + 1 + l.sz) := ⟨_, rfl⟩
          have HRT : Hid (rt = r.top (L.length + 1 + l.sz)) := hrt
          rw [← hrt]
          clear hrt hn3 hget ho3 hg3 hm3 hM hR
          go_wp2_with fail
          have A2 := grown_onT HQ.out.2.1 HQ.out.2.2 HQ2.out.2.1
          have M2 := HQ.out.2.2.trans HQ2.out.2.2 zc
          have A3 := grown_onT A2 M2 HQ3.out.2.1
          have M3 := M2.trans HQ3.out.2.2 (by omega)
          obtain ⟨s1, t1⟩ := World.ownsRow.stored (g := g3) (cap := cap3) (by have := HQ3.out.1; rw [HN3.out] at this; exact this) (L.length * 4 + 2) (.int .i64 lt)
          obtain ⟨s2, t2⟩ := s1.stored (L.length * 4 + 3) (.int .i64 rt)
          have A4 := grown_onT A3 M3 (t1 : w3.grownBy _ (Value.slice (some ⟨g3, 0, none⟩) n3 cap3).ownBlock)
          have A5 := grown_onT A4 M3 (t2 : World.grownBy _ _ (Value.slice (some ⟨g3, 0, none⟩) n3 cap3).ownBlock)
          have A6 : w.grownBy _ (Value.slice la L.length lc).ownBlock := ⟨A5.os.trans HBR.out.os, A5.tape.trans HBR.out.tape, A5.output.trans HBR.out.output, Nat.le_trans zr A5.size, fun x hx hne => (A5.block x (Nat.lt_of_lt_of_le hx zr) hne).trans (HBR.out.block x hx)⟩
          have M6 : MovedT w.heap.size (.slice la L.length lc) (.slice (some ⟨g3, 0, none⟩) n3 cap3) := M3.imp id (fun ⟨g, e, hg⟩ => ⟨g, e, Nat.le_trans zr hg⟩)
          refine bodyPost_ret (v := .tuple #[.int .i64 L.length, .slice (some ⟨g3, 0, none⟩) n3 cap3]) (by simp [results, Try.results25, go_sem]) rfl ⟨_, rfl, ?_, A6, M6⟩
          rw [lb_set] at s2
          rw [Bt.limbs, ← HLT.out, ← HRT.out, ← HR.out]
          unfold OwnsL
          rw [HN3.out]
          rw [show (L ++ (⟨k, v, lt, rt⟩ : Lb) :: R).length = (L ++ (⟨k, v, 0, 0⟩ : Lb) :: R).length by simp]
          exact s2

set_option maxHeartbeats 400000 in
theorem build_any (t : Bt) : BuildSaid t := by
  induction t with
  | nil =>
    intro pv lv L B w h _ _ hown hB _
    obtain ⟨pa, pc, rfl, _, _⟩ := h
    have HO : Hid (OwnsL w B lv L) := hown
    obtain ⟨la, lc, rfl⟩ := hown.form
    clear hown
    show Calls _ _ #[.slice pa 0 pc, _] w _
    go_enter Try.func25, Try.ntmps25
    go_wp2
    refine bodyPost_ret (v := .tuple #[.int .i64 (-1), .slice la L.length lc]) (by simp [results, Try.results25, go_sem]) rfl ⟨_, rfl, ?_, World.grownBy.refl _ _, .inl rfl⟩
    rw [Bt.limbs, List.append_nil]
    exact HO.out
  | node b k v l r ihl ihr => exact build_node b k v l r ihl ihr

set_option maxHeartbeats 400000 in
theorem l7Treap_any (t : Bt) (pv : Value) (w : World) (h : PSrc w pv t.ino (fun _ => True)) (hok : t.ok) (hks : ∀ p ∈ t.ino, p.1.size ≤ 2 ^ 20) (hs : t.sz ≤ 2 ^ 20) :
    Calls Try.prog 13 #[pv] w fun e w' => ∃ a c, e = .returned (.agg #[.slice a (t.limbs 0).length c]) ∧ OwnsL w' w.heap.size (.slice a (t.limbs 0).length c) (t.limbs 0) ∧ Below w.heap.size w w' := by
  obtain ⟨pa, pc, rfl, hpc, hsrc⟩ := h
  have HS : Hid (PSrc w (.slice pa t.ino.length pc) t.ino (fun b => some b ≠ (Value.slice none 0 0).ownBlock)) := ⟨pa, pc, rfl, hpc, hsrc.imp id (fun ⟨b, off, e, hb, _, hat⟩ => ⟨b, off, e, hb, by simp [Value.ownBlock], hat⟩)⟩
  have HOK : Hid (t.ok ∧ ∀ p ∈ t.ino, p.1.size ≤ 2 ^ 20) := ⟨hok, hks⟩
  clear hsrc hok hks
  go_enter Try.func13, Try.ntmps13
  go_wp2_with fail
  refine (build_any t _ _ [] (w.heap.size + 1) _ (HS.out.far (row := none) (World.grownBy_alloc w _ none) (fun b _ hX => ⟨by simp, hX⟩)) HOK.out.1 HOK.out.2 (World.ownsRow_nil _ _ _ _) (by simp) (by simpa using hs)).mono ?_
  rintro e w1 ⟨lv, rfl, ho, hg, _⟩
  obtain ⟨la, lc, rfl⟩ := ho.form
  have z := hg.size
  simp at z
  have x0 : w1.cell? ⟨w.heap.size, 0, none⟩ = some (.slice none 0 0) := (hg.cell_far ⟨w.heap.size, 0, none⟩ (by simp) (by simp [Value.ownBlock])).trans (by simp [go_sem])
  have f0 : w1.frozen? ⟨w.heap.size, 0, none⟩ = false := (hg.frozen_far ⟨w.heap.size, 0, none⟩ (by simp) (by simp [Value.ownBlock])).trans (by simp [go_sem])
  have HO : Hid (OwnsL w1 (w.heap.size + 1) (.slice la ([] ++ t.limbs ([] : List Lb).length).length lc) (t.limbs 0)) := ho
  have HB : Hid (Below w.heap.size w w1) := ⟨hg.os, hg.tape, hg.output, by omega, fun k hk => (hg.block k (by simp; omega) (by simp [Value.ownBlock])).trans (Below.heap_alloc w _ k hk)⟩
  clear ho hg
  have HK : Hid (∀ u, OwnsL (w1.setCell ⟨w.heap.size, 0, none⟩ u) w.heap.size (.slice la (t.limbs 0).length lc) (t.limbs 0)) := fun u => by
    have h1 : w1.grownBy (w1.setCell ⟨w.heap.size, 0, none⟩ u) (some w.heap.size) := ⟨rfl, rfl, rfl, by simp, fun k _ hk => heap_setCell_other w1 ⟨w.heap.size, 0, none⟩ k u (fun e => hk (by simp [e]))⟩
    have h2 := World.ownsRow.kept HO.out h1 (by
      cases la with
      | none => exact .inl rfl
      | some q =>
        refine .inr fun e => ?_
        have := (World.ownsRow.lt HO.out _ e).1
        omega)
    exact World.ownsRow.mono h2 (Nat.le_succ _)
  have z1 : w.heap.size < w1.heap.size := by omega
  go_wp2_with fail
  refine bodyPost_ret (v := .agg #[.slice la (t.limbs 0).length lc]) (by simp [results, Try.results13, go_sem, x0]) rfl ⟨la, lc, rfl, ?_, ?_⟩
  · exact HK.out _
  · exact HB.out.setCell (by simp) _
end Go.Proofs.Ytnmbnebofbdmfaa
