/- Where a node may stand: the program's reading of it. No condition but that its texts are small. -/
import Derived.Test.YtjbjgkkkkghcgaaGreatDoorContent
import Derived.Deep.QuietTactic
import Derived.BigQuiet
namespace Go.Proofs.YtjbjgkkkkghcgaaGreatDoor
open Go.RowKit
set_option linter.unusedVariables false

def nameLess (a b : ByteArray) : Bool := Op.bytesLess a.toList b.toList

/-- A call that answers whether p, and turns nothing that was there. -/
def BoolIs (p : Prop) (w : World) (e : Ending) (w' : World) : Prop := ∃ q, e = .returned (.bool q) ∧ (q = true ↔ p) ∧ Below w.heap.size w w'
theorem BoolIs.of {p : Prop} {w w' : World} {q : Bool} (h : q = true ↔ p) (hb : Below w.heap.size w w') : BoolIs p w (.returned (.bool q)) w' := ⟨q, rfl, h, hb⟩
theorem BoolIs.no {p : Prop} {w w' : World} (h : ¬ p) (hb : Below w.heap.size w w') : BoolIs p w (.returned (.bool false)) w' := ⟨false, rfl, by simp [h], hb⟩
theorem BoolIs.yes {p : Prop} {w w' : World} (h : p) (hb : Below w.heap.size w w') : BoolIs p w (.returned (.bool true)) w' := ⟨true, rfl, by simp [h], hb⟩

theorem drewN_below {B : Nat} {a w : World} (h : Below B a w) (n : Nat) : Below B a (w.drewN n) := ⟨h.os, h.tape, h.output, h.size, h.block⟩

/-- s is the last part ahead of k of the node that k is a part of. -/
def LastOf (N : Nat → Nd) (k s : Nat) : Prop := 0 < s ∧ s < k ∧ (N s).up = (N k).up ∧ ∀ i, s < i → i < k → (N i).up ≠ (N k).up

/-- A node of a list has no name, one of a map a greater one than the part ahead of it. -/
def NameOK (N : Nat → Nd) (k : Nat) : Prop :=
  ((N (par N k)).kind = 6 ∧ noText (N k).name = true) ∨ ((N (par N k)).kind = 7 ∧ plainB (N k).name = true ∧ ∀ s, LastOf N k s → nameLess (N s).name (N k).name = true)

def PlaceOK (N : Nat → Nd) (k : Nat) : Prop :=
  (k = 0 ∧ (N 0).up = -1 ∧ noText (N 0).name = true) ∨ (0 < k ∧ 0 ≤ (N k).up ∧ (N k).up < k ∧ Anc N (par N k) (k - 1) ∧ NameOK N k)

theorem pre_of_place {N : Nat → Nd} {k : Nat} (h : ∀ i, i < k → PlaceOK N i) : Pre N k := by
  refine ⟨fun h0 => ?_, fun i h0 hi => ?_⟩
  · rcases h 0 h0 with ⟨_, h, _⟩ | ⟨h, _⟩
    · exact h
    · omega
  · rcases h i hi with ⟨h, _⟩ | ⟨_, h1, h2, h3, _⟩
    · omega
    · exact ⟨h1, h2, h3⟩

/-- The last one that the climb from k - 1 passed is the last part ahead of k. -/
theorem lastOf_climb {N : Nat → Nd} {k s : Nat} (h : Pre N k) (h0 : 0 < s) (hs : s < k) (hup : (N s).up = (N k).up) (hk : 0 ≤ (N k).up) (hlt : (N k).up < s) (ha : Anc N s (k - 1)) : LastOf N k s := by
  refine ⟨h0, hs, hup, fun i hi hik e => ?_⟩
  have := h.le_par (i := i) ha hi (by omega) (by omega)
  unfold par at this
  omega

theorem lastOf_unique {N : Nat → Nd} {k s t : Nat} (h : LastOf N k s) (g : LastOf N k t) : s = t := by
  rcases Nat.lt_trichotomy s t with e | e | e
  · exact absurd g.2.2.1 (h.2.2.2 t e g.2.1)
  · exact e
  · exact absurd h.2.2.1 (g.2.2.2 s e h.2.1)

theorem name_none {N : Nat → Nd} {k : Nat} (h : Pre N k) (h0 : 0 < k) (hup : (N k).up = (k - 1 : Nat)) (s : Nat) : ¬ LastOf N k s := fun ⟨s0, s1, s2, _⟩ => by
  have := h.2 s s0 s1
  omega

theorem noAnc {N : Nat → Nd} {k at' : Nat} (h : Pre N k) (hk : at' < k) (hlt : at' < par N k) : ¬ Anc N (par N k) at' := fun ha => by
  have := h.anc_le at' hk _ ha
  omega

set_option maxHeartbeats 1000000 in
theorem goodPlace_zero (b off c n : Nat) (N : Nat → Nd) (w : World) (hb : b < w.heap.size) (h : NodesAt w b off n N) (hn : 0 < n) :
    Calls Tryz.prog 61 #[.slice (some ⟨b, off, none⟩) n c, .int .i64 0] w (BoolIs (PlaceOK N 0) w) := by
  obtain ⟨a0, a1, a2, a3, a4⟩ := h 0 hn
  simp only [Nat.zero_mul, Nat.add_zero] at a0 a1 a2 a3 a4
  have i1 : (0 : Int) < (n : Int) := by omega
  by_cases hu : (N 0).up = -1
  · have HP : Hid (PlaceOK N 0 ↔ (N 0).name.toList.isEmpty = true) := by
      refine ⟨fun h => ?_, fun h => .inl ⟨rfl, hu, h⟩⟩
      rcases h with ⟨_, _, h⟩ | ⟨h, _⟩
      · exact h
      · omega
    rw [hu] at a4
    clear h hu
    go_enter Tryz.func61, Tryz.ntmps61
    go_wp2
    go_ret
    exact BoolIs.of HP.out.symm (by go_grown)
  · have HP : Hid (¬ PlaceOK N 0) := by
      rintro (⟨_, h, _⟩ | ⟨h, _⟩)
      · exact hu h
      · omega
    have hu' : ((N 0).up == -1) = false := by simpa using hu
    clear h
    go_enter Tryz.func61, Tryz.ntmps61
    go_wp2
    go_ret
    exact BoolIs.no HP.out (by go_grown)

set_option maxHeartbeats 1000000 in
theorem goodPlace_out (b off c n k : Nat) (N : Nat → Nd) (w : World) (hb : b < w.heap.size) (h : NodesAt w b off n N) (hk : k < n) (h0 : 0 < k) (hn : n ≤ 2 ^ 30) (ho : (N k).up < 0 ∨ (k : Int) ≤ (N k).up) :
    Calls Tryz.prog 61 #[.slice (some ⟨b, off, none⟩) n c, .int .i64 k] w fun e w' => e = .returned (.bool false) ∧ Below w.heap.size w w' := by
  obtain ⟨a0, a1, a2, a3, a4⟩ := h k hk
  have i0 : (0 : Int) ≤ (k : Int) := by omega
  have i1 : (k : Int) < (n : Int) := by omega
  have i2 : ((k : Int) == 0) = false := by simp; omega
  clear h
  by_cases hneg : (N k).up < 0
  · go_enter Tryz.func61, Tryz.ntmps61
    go_wp2
    go_ret
    exact ⟨rfl, by go_grown⟩
  · have hge : (k : Int) ≤ (N k).up := by omega
    go_enter Tryz.func61, Tryz.ntmps61
    go_wp2
    go_ret
    exact ⟨rfl, by go_grown⟩

theorem isPlain_is (s : ByteArray) (v : Bool) (w : World) (hs : s.size ≤ 2 ^ 40) (h : plainB s = v) : Calls Tryz.prog 76 #[.string s] w fun e w' => e = .returned (.bool v) ∧ w' = w := by
  subst h
  exact isPlain_any s w hs

/-- What the climb knows of one part. -/
def Climb (N : Nat → Nd) (k at' : Nat) (q : Int) : Prop :=
  at' < k ∧ Anc N at' (k - 1) ∧ (Anc N (par N k) (k - 1) → Anc N (par N k) at') ∧
    ((q = -1 ∧ at' = k - 1) ∨ ∃ s : Nat, q = s ∧ 0 < s ∧ s < k ∧ (N s).up = at' ∧ Anc N s (k - 1) ∧ (N k).up < s)

theorem climb_start {N : Nat → Nd} {k : Nat} (h0 : 0 < k) : Climb N k (k - 1) (-1) := ⟨by omega, Anc.refl _ _, fun h => h, .inl ⟨rfl, rfl⟩⟩
theorem climb_step {N : Nat → Nd} {k at' : Nat} {q : Int} (h : Pre N k) (hup : 0 ≤ (N k).up) (hc : Climb N k at' q) (hgt : (N k).up < at') : ∃ at2 : Nat, (N at').up = at2 ∧ at2 < at' ∧ Climb N k at2 at' := by
  obtain ⟨c1, c2, c3, _⟩ := hc
  have hp := h.par_lt (i := at') (by omega) c1
  refine ⟨par N at', h.par_eq (by omega) c1, hp, by omega, (Anc.step (Anc.refl _ _)).trans c2, fun ha => ?_, .inr ⟨at', rfl, by omega, c1, h.par_eq (by omega) c1, c2, hgt⟩⟩
  rcases (c3 ha).cases with e | e
  · unfold par at e
    omega
  · exact e

theorem climb_no {N : Nat → Nd} {k at' : Nat} {q : Int} (h : Pre N k) (hup : 0 ≤ (N k).up) (hc : Climb N k at' q) (hle : ¬ (N k).up < at') (hne : (at' : Int) ≠ (N k).up) : ¬ PlaceOK N k := by
  rintro (⟨e, _⟩ | ⟨_, _, _, ha, _⟩)
  · obtain ⟨c1, _⟩ := hc
    omega
  · exact noAnc h hc.1 (by unfold par; omega) (hc.2.2.1 ha)

theorem climb_yes {N : Nat → Nd} {k at' : Nat} {q : Int} (h : Pre N k) (hup : 0 ≤ (N k).up) (hlt : (N k).up < k) (hc : Climb N k at' q) (heq : (at' : Int) = (N k).up) : PlaceOK N k ↔ NameOK N k := by
  have hp : par N k = at' := by unfold par; omega
  refine ⟨?_, fun hn => .inr ⟨by have := hc.1; omega, hup, hlt, by rw [hp]; exact hc.2.1, hn⟩⟩
  rintro (⟨e, _⟩ | ⟨_, _, _, _, hn⟩)
  · have := hc.1; omega
  · exact hn

theorem climb_last {N : Nat → Nd} {k at' s : Nat} (h : Pre N k) (hup : 0 ≤ (N k).up) (heq : (at' : Int) = (N k).up) (hc : 0 < s ∧ s < k ∧ (N s).up = at' ∧ Anc N s (k - 1) ∧ (N k).up < s) : LastOf N k s :=
  lastOf_climb h hc.1 hc.2.1 (by rw [hc.2.2.1, heq]) hup hc.2.2.2.2 hc.2.2.2.1

set_option maxHeartbeats 2000000 in
theorem goodPlace_in (b off c n k : Nat) (N : Nat → Nd) (w : World) (hb : b < w.heap.size) (h : NodesAt w b off n N) (hk : k < n) (h0 : 0 < k) (hn : n ≤ 2 ^ 30) (hpre : Pre N k) (hu0 : 0 ≤ (N k).up) (hu1 : (N k).up < k) (hsz : (N k).name.size ≤ 2 ^ 40) :
    Calls Tryz.prog 61 #[.slice (some ⟨b, off, none⟩) n c, .int .i64 k] w (BoolIs (PlaceOK N k) w) := by
  obtain ⟨a0, a1, a2, a3, a4⟩ := h k hk
  have i0 : (0 : Int) ≤ (k : Int) := by omega
  have i1 : (k : Int) < (n : Int) := by omega
  have i2 : ((k : Int) == 0) = false := by simp; omega
  have H : Hid (NodesAt w b off n N) := h
  have HP : Hid (Pre N k) := hpre
  have d0 : decide ((N k).up < 0) = false := decide_eq_false (by omega)
  have d1 : decide ((k : Int) ≤ (N k).up) = false := decide_eq_false (by omega)
  clear h hpre
  go_enter Tryz.func61, Tryz.ntmps61
  go_wp2_with fail
  go_loop [6, 7] (fun v6 v7 => ∃ (at' : Nat) (q : Int), v6 = .int .i64 at' ∧ v7 = .int .i64 q ∧ Hid (Climb N k at' q)) (fun v6 _ => (intOf v6).toNat)
  case atStart => exact ⟨k - 1, -1, by go_num, rfl, climb_start h0⟩
  case round =>
    obtain ⟨at', q, rfl, rfl, HC⟩ := hrel
    have hatk : at' < k := HC.out.1
    obtain ⟨c0, c1, c2, c3, c4⟩ := H.out at' (by omega)
    have j0 : (0 : Int) ≤ (at' : Int) := by omega
    have j1 : (at' : Int) < (n : Int) := by omega
    by_cases hgt : (N k).up < (at' : Int)
    · obtain ⟨at2, e2, l2, HC2⟩ := climb_step HP.out hu0 HC.out hgt
      rw [e2] at c4
      have HC2' : Hid (Climb N k at2 at') := HC2
      clear HC2 e2
      go_wp2_with fail
      go_round
      case rel => exact ⟨at2, at', rfl, rfl, HC2'⟩
      case measure => simp [intOf]; omega
    · by_cases heq : (at' : Int) = (N k).up
      · have HN : Hid (PlaceOK N k ↔ NameOK N k) := climb_yes HP.out hu0 hu1 HC.out heq
        have hp : par N k = at' := by unfold par; omega
        have hne : ((at' : Int) != (N k).up) = false := by simpa using heq
        have hto : (N k).up.toNat = at' := by omega
        have hun : (N k).up < (n : Int) := by omega
        have HE : Hid ((at' : Int) = (N k).up) := heq
        clear heq
        by_cases k6 : (N at').kind = 6
        · have HN2 : Hid (PlaceOK N k ↔ (N k).name.toList.isEmpty = true) := by
            refine HN.out.trans ⟨?_, fun h => .inl ⟨by rw [hp]; exact k6, h⟩⟩
            rintro (⟨_, h⟩ | ⟨h, _⟩)
            · exact h
            · rw [hp, k6] at h; omega
          rw [k6] at c0
          clear k6 hp
          go_wp2_with fail
          go_ret
          exact BoolIs.of HN2.out.symm (by go_grown)
        · by_cases k7 : (N at').kind = 7
          · rw [k7] at c0
            have HQ := HC.out.2.2.2
            rcases HQ with ⟨rfl, hlast⟩ | ⟨s, rfl, hs⟩
            · have HN2 : Hid (PlaceOK N k ↔ plainB (N k).name = true) := by
                refine HN.out.trans ⟨?_, fun h => .inr ⟨by rw [hp]; exact k7, h, fun s hs => absurd hs (name_none HP.out h0 (by rw [← HE.out, hlast]) s)⟩⟩
                rintro (⟨h, _⟩ | ⟨_, h, _⟩)
                · rw [hp, k7] at h; omega
                · exact h
              clear k7 k6 hp hlast
              cases hpl : plainB (N k).name with
              | true =>
                rw [hpl] at HN2
                have HPL : Hid (plainB (N k).name = true) := hpl
                clear hpl
                go_wp2_with fail
                go_quiet ((go_at_call 76; exact Calls.quiet_of_same (isPlain_is _ true _ hsz HPL.out)))
                go_wp2
                go_ret
                exact BoolIs.of (by simpa using HN2.out.symm) (drewN_below (by go_grown) _)
              | false =>
                rw [hpl] at HN2
                have HPL : Hid (plainB (N k).name = false) := hpl
                clear hpl
                go_wp2_with fail
                go_quiet ((go_at_call 76; exact Calls.quiet_of_same (isPlain_is _ false _ hsz HPL.out)))
                go_wp2
                go_ret
                exact BoolIs.of (by simpa using HN2.out.symm) (drewN_below (by go_grown) _)
            · have hl : LastOf N k s := climb_last HP.out hu0 HE.out hs
              obtain ⟨s1, s2, _⟩ := hs
              obtain ⟨g0, g1, g2, g3, g4⟩ := H.out s (by omega)
              have HN2 : Hid (PlaceOK N k ↔ (plainB (N k).name && nameLess (N s).name (N k).name) = true) := by
                rw [Bool.and_eq_true]
                refine HN.out.trans ⟨?_, fun h => .inr ⟨by rw [hp]; exact k7, h.1, fun t ht => by rw [← lastOf_unique hl ht]; exact h.2⟩⟩
                rintro (⟨h, _⟩ | ⟨_, h, h2⟩)
                · rw [hp, k7] at h; omega
                · exact ⟨h, h2 s hl⟩
              clear k7 k6 hp hl
              have s3 : (0 : Int) ≤ (s : Int) := by omega
              have s4 : (s : Int) < (n : Int) := by omega
              have s5 : decide ((s : Int) < 0) = false := decide_eq_false (by omega)
              cases hpl : plainB (N k).name with
              | true =>
                rw [hpl] at HN2
                have HPL : Hid (plainB (N k).name = true) := hpl
                clear hpl
                go_wp2_with fail
                go_quiet ((go_at_call 76; exact Calls.quiet_of_same (isPlain_is _ true _ hsz HPL.out)))
                go_wp2
                go_ret
                exact BoolIs.of (by simpa [nameLess] using HN2.out.symm) (drewN_below (by go_grown) _)
              | false =>
                rw [hpl] at HN2
                have HPL : Hid (plainB (N k).name = false) := hpl
                clear hpl
                go_wp2_with fail
                go_quiet ((go_at_call 76; exact Calls.quiet_of_same (isPlain_is _ false _ hsz HPL.out)))
                go_wp2
                go_ret
                exact BoolIs.of (by simpa using HN2.out.symm) (drewN_below (by go_grown) _)
          · have HN2 : Hid (¬ PlaceOK N k) := fun h => by
              rcases HN.out.1 h with ⟨h, _⟩ | ⟨h, _⟩
              · rw [hp] at h; exact k6 h
              · rw [hp] at h; exact k7 h
            have e6 : ((N at').kind == 6) = false := by simpa using k6
            have e7 : ((N at').kind == 7) = false := by simpa using k7
            clear k6 k7 hp
            go_wp2_with fail
            go_ret
            exact BoolIs.no HN2.out (by go_grown)
      · have HN : Hid (¬ PlaceOK N k) := climb_no HP.out hu0 HC.out hgt heq
        have hne : ((at' : Int) != (N k).up) = true := by simpa using heq
        clear heq
        go_wp2_with fail
        go_ret
        exact BoolIs.no HN.out (by go_grown)

theorem goodPlace_any (b off c n k : Nat) (N : Nat → Nd) (w : World) (hb : b < w.heap.size) (h : NodesAt w b off n N) (hk : k < n) (hn : n ≤ 2 ^ 30) (hpl : ∀ i, i < k → PlaceOK N i) (hsz : (N k).name.size ≤ 2 ^ 40) :
    Calls Tryz.prog 61 #[.slice (some ⟨b, off, none⟩) n c, .int .i64 k] w (BoolIs (PlaceOK N k) w) := by
  by_cases h0 : k = 0
  · subst h0
    exact goodPlace_zero b off c n N w hb h hk
  · by_cases hu : 0 ≤ (N k).up ∧ (N k).up < k
    · exact goodPlace_in b off c n k N w hb h hk (by omega) hn (pre_of_place hpl) hu.1 hu.2 hsz
    · refine (goodPlace_out b off c n k N w hb h hk (by omega) hn (by omega)).mono ?_
      rintro e w' ⟨rfl, hb'⟩
      refine BoolIs.no ?_ hb'
      rintro (⟨e, _⟩ | ⟨_, h1, h2, _⟩)
      · exact h0 e
      · exact hu ⟨h1, h2⟩

end Go.Proofs.YtjbjgkkkkghcgaaGreatDoor
