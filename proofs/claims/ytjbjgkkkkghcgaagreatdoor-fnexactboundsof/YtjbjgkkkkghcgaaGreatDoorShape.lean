/- The specification's reading of a value's shape. -/
import Derived.Test.YtjbjgkkkkghcgaaGreatDoorShapeW
namespace Go.Proofs.YtjbjgkkkkghcgaaGreatDoor
open Go.RowKit
set_option linter.unusedVariables false

/-- What the specification has kept behind i nodes. -/
def SWi (w : World) (b off c n : Nat) (N : Nat → Nd) (i : Nat) (wr : World) : Prop :=
  SW w b off c n N wr (fun j => if j < i then (depth N j : Int) else 0) (fun u => lastNm N i u) (fun u => seenB N i u)

/-- What lies in memory behind the test whether the node is a list or a map. -/
structure Mid (w : World) (b off c n : Nat) (N : Nat → Nd) (i : Nat) (wr wx : World) : Prop where
  sw : SW w b off c n N wx (fun j => if j = i then (hN N i : Int) else if j < i then (depth N j : Int) else 0) (fun u => lastNm N i u) (fun u => seenB N i u)
  node : NodesAt wx wr.heap.size 0 1 (fun _ => N i)
  size : wx.heap.size = wr.heap.size + 1

theorem mid_of {w wr W : World} {b off c n i : Nat} {N : Nat → Nd} (hb : b < w.heap.size) (T : TypeId) (hz : W.heap.size = wr.heap.size)
    (h : SW w b off c n N W (fun j => if j = i then (hN N i : Int) else if j < i then (depth N j : Int) else 0) (fun u => lastNm N i u) (fun u => seenB N i u)) :
    Mid w b off c n N i wr (W.alloc (.cells #[.int .i64 (N i).kind, .int .i64 (N i).num, .string (N i).text, .string (N i).name, .int .i64 (N i).up] T)) := by
  refine ⟨h.alloc hb _, fun j hj => ?_, by simp [hz]⟩
  obtain rfl : j = 0 := by omega
  rw [← hz]
  simp [World.cell?_alloc_new]

theorem head_content {x : Nd} (h : headB x = true) : contentB x = true ∧ plainB x.name = true := by
  rw [headB_eq, Bool.and_eq_true] at h
  exact h

theorem mid_zero {w wr wx : World} {b off c n i : Nat} {N : Nat → Nd} (hi : i = 0) (h : Mid w b off c n N i wr wx) : SWi w b off c n N (i + 1) wx := by
  subst hi
  refine h.sw.congr (fun j hj => ?_) (fun j hj => ?_) (fun j hj => ?_)
  · by_cases e : j = 0
    · subst e; simp [depth_zero]
    · have e2 : ¬ j < 1 := by omega
      simp [e]
  · simp [lastNm, lastIx]
  · simp [seenB, lastIx]

theorem shape_zero {N : Nat → Nd} {i : Nat} (hi : i = 0) (hv : headB (N i) = true) (h : ShapeTo N i) (hu : (N i).up = -1) (hm : noText (N i).name = true) : ShapeTo N (i + 1) := by
  subst hi
  exact h.succ (head_content hv).1 (.inl ⟨rfl, hu, hm⟩) (by rw [depth_zero]; have := hN_le N 0; omega)

theorem not_zero {N : Nat → Nd} {n i : Nat} (hi : i = 0) (hn : i < n) (hu : ¬ ((N i).up = -1 ∧ noText (N i).name = true)) : ¬ ShapeOK N n := fun ⟨_, _, hs⟩ => by
  subst hi
  rcases (hs 0 hn).2.1 with ⟨_, h1, h2⟩ | ⟨h, _⟩
  · exact hu ⟨h1, h2⟩
  · omega

/-- What lies in memory behind the depth's sum. -/
structure Mid2 (w : World) (b off c n : Nat) (N : Nat → Nd) (i : Nat) (wr wx : World) : Prop where
  sw : SW w b off c n N wx (fun j => if j < i + 1 then (depth N j : Int) else 0) (fun u => lastNm N i u) (fun u => seenB N i u)
  node : NodesAt wx wr.heap.size 0 1 (fun _ => N i)
  size : wx.heap.size = wr.heap.size + 1

theorem mid2_of {w wr wx : World} {b off c n i u : Nat} {N : Nat → Nd} (hb : b < w.heap.size) (hi : i < n) (h : Mid w b off c n N i wr wx) (hp : Pre N (i + 1)) (h0 : 0 < i) (hu : (N i).up = u) (x : Int) (hx : x = (hN N i : Int) + (depth N u : Int)) (hlt : w.heap.size + 1 < wr.heap.size) :
    Mid2 w b off c n N i wr (wx.setCell ⟨w.heap.size + 1, i, none⟩ (.int .i64 x)) := by
  have hq : BelowBut wx.heap.size (w.heap.size + 1) wx (wx.setCell ⟨w.heap.size + 1, i, none⟩ (.int .i64 x)) := BelowBut.setCell _ _ _
  refine ⟨(h.sw.setD hb hi x).congr (fun j hj => ?_) (fun _ _ => rfl) (fun _ _ => rfl), h.node.but hq (by rw [h.size]; omega) (by omega), by simp [h.size]⟩
  by_cases e : j = i
  · subst e
    have : par N j = u := by unfold par; omega
    rw [if_pos rfl, if_pos (by omega), depth_pos hp h0 (by omega), this, hx]
    omega
  · by_cases e2 : j < i
    · simp [e, e2, Nat.lt_succ_of_lt e2]
    · have e3 : ¬ j < i + 1 := by omega
      simp [e, e2, e3]

theorem Mid2.drew {w wr wx : World} {b off c n i : Nat} {N : Nat → Nd} (hb : b < w.heap.size) (h : Mid2 w b off c n N i wr wx) : Mid2 w b off c n N i wr wx.drew :=
  ⟨h.sw.next hb (Below.drew (Below.refl _ _)), h.node, h.size⟩

/-- What the specification's climb knows. -/
def Climb2 (N : Nat → Nd) (i u : Nat) (x : Int) : Prop :=
  (x = -1 ∨ ∃ a : Nat, x = a ∧ a < i ∧ Anc N a (i - 1)) ∧ (Anc N u (i - 1) → ∃ a : Nat, x = a ∧ Anc N u a)
theorem shape_pre {N : Nat → Nd} {i u : Nat} (h : ShapeTo N i) (hu : (N i).up = u) (hui : u < i) (hc : Climb2 N i u u) : Pre N (i + 1) := by
  have hp := h.pre
  refine ⟨fun _ => hp.1 (by omega), fun j j0 hj => ?_⟩
  by_cases e : j = i
  · subst e
    refine ⟨by omega, by omega, ?_⟩
    rw [show par N j = u by unfold par; omega]
    rcases hc.1 with h | ⟨a, e, _, h⟩
    · omega
    · obtain rfl : u = a := by omega
      exact h
  · exact hp.2 j j0 (by omega)

theorem climb2_start {N : Nat → Nd} {i u : Nat} (h0 : 0 < i) : Climb2 N i u ((i : Int) - 1) :=
  ⟨.inr ⟨i - 1, by omega, by omega, Anc.refl _ _⟩, fun h => ⟨i - 1, by omega, h⟩⟩
theorem climb2_step {N : Nat → Nd} {i u a : Nat} (h : Pre N i) (ha : a < i) (hne : a ≠ u) (hc : Climb2 N i u a) : Climb2 N i u (N a).up ∧ -1 ≤ (N a).up ∧ (N a).up < a := by
  obtain ⟨h1, h2⟩ := hc
  have hanc : Anc N a (i - 1) := by
    rcases h1 with h1 | ⟨a', e, _, h1⟩
    · omega
    · obtain rfl : a = a' := by omega
      exact h1
  by_cases h0 : a = 0
  · subst h0
    have e := h.1 ha
    refine ⟨⟨.inl e, fun hh => ?_⟩, by omega, by omega⟩
    obtain ⟨a', e', ha'⟩ := h2 hh
    obtain rfl : a' = 0 := by omega
    have := h.anc_le 0 ha u ha'
    omega
  · have hp := h.par_lt (by omega) ha
    have e := h.par_eq (by omega) ha
    refine ⟨⟨.inr ⟨par N a, e, by omega, (Anc.step (Anc.refl _ _)).trans hanc⟩, fun hh => ?_⟩, by omega, by omega⟩
    obtain ⟨a', e', ha'⟩ := h2 hh
    obtain rfl : a = a' := by omega
    rcases ha'.cases with e2 | e2
    · omega
    · exact ⟨par N a, e, e2⟩
theorem climb2_no {N : Nat → Nd} {n i u : Nat} (hc : Climb2 N i u (-1)) (h0 : 0 < i) (hn : i < n) (hu : (N i).up = u) : ¬ ShapeOK N n := fun ⟨_, _, hs⟩ => by
  rcases (hs i hn).2.1 with ⟨h, _⟩ | ⟨_, _, _, h, _⟩
  · omega
  · rw [show par N i = u by unfold par; omega] at h
    obtain ⟨a, e, _⟩ := hc.2 h
    omega
theorem climb2_yes {N : Nat → Nd} {i u : Nat} (hc : Climb2 N i u u) (h0 : 0 < i) (hu : (N i).up = u) (hui : u < i) (hm : NameOK N i) : PlaceOK N i := by
  refine .inr ⟨h0, by omega, by omega, ?_, hm⟩
  rw [show par N i = u by unfold par; omega]
  rcases hc.1 with h | ⟨a, e, _, h⟩
  · omega
  · obtain rfl : u = a := by omega
    exact h
theorem not_range {N : Nat → Nd} {n i : Nat} (h0 : 0 < i) (hn : i < n) (hu : ¬ (0 ≤ (N i).up ∧ (N i).up ≤ (i : Int) - 1)) : ¬ ShapeOK N n := fun ⟨_, _, hs⟩ => by
  rcases (hs i hn).2.1 with ⟨h, _⟩ | ⟨_, h1, h2, _⟩
  · omega
  · omega
theorem not_name {N : Nat → Nd} {n i : Nat} (h0 : 0 < i) (hn : i < n) (hm : ¬ NameOK N i) : ¬ ShapeOK N n := fun ⟨_, _, hs⟩ => by
  rcases (hs i hn).2.1 with ⟨h, _⟩ | ⟨_, _, _, _, h⟩
  · omega
  · exact hm h
theorem not_holds {N : Nat → Nd} {i u : Nat} (hu : (N i).up = u) (hh : holdsB (N u).kind = false) : ¬ NameOK N i := by
  unfold NameOK
  rw [show par N i = u by unfold par; omega]
  unfold holdsB at hh
  simp at hh
  rintro (⟨h, _⟩ | ⟨h, _⟩)
  · exact hh.1 h
  · exact hh.2 h
theorem not_deep {N : Nat → Nd} {n i : Nat} (hn : i < n) (hm : ¬ depth N i ≤ 6) : ¬ ShapeOK N n := fun ⟨_, _, hs⟩ => hm (hs i hn).2.2

theorem lastIx_map {N : Nat → Nd} {i u : Nat} (h0 : 0 < i) (hu : (N i).up = u) (hk : (N u).kind = 7) (v : Nat) : lastIx N v (i + 1) = if v = u then some i else lastIx N v i := by
  by_cases e : v = u
  · subst e
    rw [if_pos rfl, lastIx, if_pos ⟨h0, hu, hk⟩]
  · rw [if_neg e, lastIx, if_neg (by rintro ⟨_, h, _⟩; exact e (by omega))]
theorem lastIx_list {N : Nat → Nd} {i u : Nat} (hu : (N i).up = u) (hk : (N u).kind ≠ 7) (v : Nat) : lastIx N v (i + 1) = lastIx N v i := by
  rw [lastIx, if_neg (by rintro ⟨_, h, h2⟩; obtain rfl : v = u := by omega
                         exact hk h2)]

theorem end_map {w wr wx : World} {b off c n i u : Nat} {N : Nat → Nd} (hb : b < w.heap.size) (h0 : 0 < i) (hun : u < n) (hu : (N i).up = u) (hk : (N u).kind = 7) (h : Mid2 w b off c n N i wr wx) :
    SWi w b off c n N (i + 1) ((wx.setCell ⟨w.heap.size + 1 + 1, u, none⟩ (.string (N i).name)).setCell ⟨w.heap.size + 1 + 1 + 1, u, none⟩ (.bool true)) := by
  refine ((h.sw.setL hb hun (N i).name).setS hb hun true).congr (fun _ _ => rfl) (fun v hv => ?_) (fun v hv => ?_)
  · unfold lastNm
    rw [lastIx_map h0 hu hk]
    by_cases e : v = u <;> simp [e]
  · unfold seenB
    rw [lastIx_map h0 hu hk]
    by_cases e : v = u <;> simp [e]
theorem end_list {w wr wx : World} {b off c n i u : Nat} {N : Nat → Nd} (hu : (N i).up = u) (hk : (N u).kind ≠ 7) (h : Mid2 w b off c n N i wr wx) : SWi w b off c n N (i + 1) wx := by
  refine h.sw.congr (fun _ _ => rfl) (fun v hv => ?_) (fun v hv => ?_)
  · unfold lastNm
    rw [lastIx_list hu hk]
  · unfold seenB
    rw [lastIx_list hu hk]
theorem end_shape {N : Nat → Nd} {i u : Nat} (h : ShapeTo N i) (hv : headB (N i) = true) (h0 : 0 < i) (hu : (N i).up = u) (hui : u < i) (hc : Climb2 N i u u) (hm : NameOK N i) (hd : depth N i ≤ 6) : ShapeTo N (i + 1) :=
  h.succ (head_content hv).1 (climb2_yes hc h0 hu hui hm) hd

theorem SWi.drewN {w wx : World} {b off c n i : Nat} {N : Nat → Nd} (hb : b < w.heap.size) (h : SWi w b off c n N i wx) (q : Nat) : SWi w b off c n N i (wx.drewN q) :=
  SW.next h hb (drewN_below (Below.refl _ _) q)

set_option maxRecDepth 100000 in
set_option maxHeartbeats 4000000 in
theorem l1Shape_some (b off c n : Nat) (N : Nat → Nd) (w : World) (hb : b < w.heap.size) (h : NodesAt w b off n N) (hn : n ≤ 2 ^ 20) (hsm : SmallN n N) :
    Calls Tryz.prog 40 #[.agg #[.slice (some ⟨b, off, none⟩) n c]] w (BoolIs (ShapeOK N n) w) := by
  have hm1 := make_ints n (by omega)
  have hm2 := make_strs n (by omega)
  have hm3 := make_bools n (by omega)
  have HS0 : Hid (SWi w b off c n N 0 _) := (sw_start w b off c n N 60 3 9 4 hb h).congr (fun i _ => by simp) (fun i _ => rfl) (fun i _ => rfl)
  have HSM : Hid (SmallN n N) := hsm
  clear h hsm
  go_enter Tryz.func40, Tryz.ntmps40
  go_wp2_with fail
  go_loopw [24] (fun q wr => ∃ i : Nat, i ≤ n ∧ q = .int .i64 i ∧ Hid (SWi w b off c n N i wr) ∧ Hid (ShapeTo N i)) (fun q _ => n - (intOf q).toNat)
  case atStart => exact ⟨0, Nat.zero_le _, rfl, HS0, fun j hj => by omega⟩
  case round =>
    clear hm1 hm2 hm3
    obtain ⟨i, hi, rfl, HW, HT⟩ := hrel
    by_cases hlt : i < n
    · have hsz := HW.out.size
      have hbx := HW.out.box
      obtain ⟨a0, a1, a2, a3, a4⟩ := HW.out.nodes i hlt
      have i0 : (0 : Int) ≤ (i : Int) := by omega
      have i1 : (i : Int) < (n : Int) := by omega
      have hbw : b < wr.heap.size := by omega
      have hww : w.heap.size < wr.heap.size := by omega
      have t0 := (HSM.out.2 i hlt).1
      have t1 := (HSM.out.2 i hlt).2
      go_upto_region 7 with fail
      go_cut [70] (fun q wx => q = .bool (!headB (N i)) ∧ wx = wr.alloc (.cells #[.int .i64 (N i).kind, .int .i64 (N i).num, .string (N i).text, .string (N i).name, .int .i64 (N i).up] 66))
      case first =>
        as_aux_lemma =>
          by_cases k1 : 1 ≤ (N i).kind
          case neg =>
            as_aux_lemma =>
              have k1b : decide (1 ≤ (N i).kind) = false := decide_eq_false k1
              have HV : Hid (headB (N i) = false) := hd_k1 k1
              clear HW HT hbx
              go_wp2_with (first | (go_at_call 21; refine (l1In_is _ _ _ _ _ rfl).mono ?_; rintro e w' ⟨rfl, rfl⟩) | (go_at_call 55; refine (l1Number_is _ _ _ rfl).mono ?_; rintro e w' ⟨rfl, rfl⟩) | (go_at_call 20; refine (l1Printed_any _ _ (by omega)).mono ?_; rintro e w' ⟨rfl, rfl⟩))
              go_meet
              case rel => exact ⟨congrArg Value.bool (by rw [HV.out]; rfl), rfl⟩
          have k1b : decide (1 ≤ (N i).kind) = true := decide_eq_true k1
          by_cases k2 : (N i).kind ≤ 7
          case neg =>
            as_aux_lemma =>
              have k2b : decide ((N i).kind ≤ 7) = false := decide_eq_false k2
              have HV : Hid (headB (N i) = false) := hd_k2 k2
              clear HW HT hbx
              go_wp2_with (first | (go_at_call 21; refine (l1In_is _ _ _ _ _ rfl).mono ?_; rintro e w' ⟨rfl, rfl⟩) | (go_at_call 55; refine (l1Number_is _ _ _ rfl).mono ?_; rintro e w' ⟨rfl, rfl⟩) | (go_at_call 20; refine (l1Printed_any _ _ (by omega)).mono ?_; rintro e w' ⟨rfl, rfl⟩))
              go_meet
              case rel => exact ⟨congrArg Value.bool (by rw [HV.out]; rfl), rfl⟩
          have k2b : decide ((N i).kind ≤ 7) = true := decide_eq_true k2
          by_cases h4 : (N i).kind = 4
          · have h4b : ((N i).kind != 4) = false := by simpa using h4
            have H4 : Hid ((N i).kind = 4) := h4
            clear h4
            by_cases n1 : -1000000000 ≤ (N i).num
            case neg =>
              as_aux_lemma =>
                have n1b : decide (-1000000000 ≤ (N i).num) = false := decide_eq_false n1
                have HV : Hid (headB (N i) = false) := hd_n1 n1
                clear HW HT hbx
                go_wp2_with (first | (go_at_call 21; refine (l1In_is _ _ _ _ _ rfl).mono ?_; rintro e w' ⟨rfl, rfl⟩) | (go_at_call 55; refine (l1Number_is _ _ _ rfl).mono ?_; rintro e w' ⟨rfl, rfl⟩) | (go_at_call 20; refine (l1Printed_any _ _ (by omega)).mono ?_; rintro e w' ⟨rfl, rfl⟩))
                go_meet
                case rel => exact ⟨congrArg Value.bool (by rw [HV.out]; rfl), rfl⟩
            have n1b : decide (-1000000000 ≤ (N i).num) = true := decide_eq_true n1
            by_cases n2 : (N i).num ≤ 1000000000
            case neg =>
              as_aux_lemma =>
                have n2b : decide ((N i).num ≤ 1000000000) = false := decide_eq_false n2
                have HV : Hid (headB (N i) = false) := hd_n2 n2
                clear HW HT hbx
                go_wp2_with (first | (go_at_call 21; refine (l1In_is _ _ _ _ _ rfl).mono ?_; rintro e w' ⟨rfl, rfl⟩) | (go_at_call 55; refine (l1Number_is _ _ _ rfl).mono ?_; rintro e w' ⟨rfl, rfl⟩) | (go_at_call 20; refine (l1Printed_any _ _ (by omega)).mono ?_; rintro e w' ⟨rfl, rfl⟩))
                go_meet
                case rel => exact ⟨congrArg Value.bool (by rw [HV.out]; rfl), rfl⟩
            have n2b : decide ((N i).num ≤ 1000000000) = true := decide_eq_true n2
            have h5 : ¬ (N i).kind = 5 := by have := H4.out; omega
            have h5b : ((N i).kind != 5) = true := by simpa using h5
            cases z1 : (N i).text.toList.isEmpty with
            | false =>
              as_aux_lemma =>
                have HV : Hid (headB (N i) = false) := hd_txt h5 z1
                clear HW HT hbx
                go_wp2_with (first | (go_at_call 21; refine (l1In_is _ _ _ _ _ rfl).mono ?_; rintro e w' ⟨rfl, rfl⟩) | (go_at_call 55; refine (l1Number_is _ _ _ rfl).mono ?_; rintro e w' ⟨rfl, rfl⟩) | (go_at_call 20; refine (l1Printed_any _ _ (by omega)).mono ?_; rintro e w' ⟨rfl, rfl⟩))
                go_meet
                case rel => exact ⟨congrArg Value.bool (by rw [HV.out]; rfl), rfl⟩
            | true =>
              as_aux_lemma =>
                have Z1 : Hid (noText (N i).text = true) := z1
                cases p1 : plainB (N i).text with
                | false =>
                  as_aux_lemma =>
                    have HV : Hid (headB (N i) = false) := hd_p1 p1
                    clear HW HT hbx
                    go_wp2_with (first | (go_at_call 21; refine (l1In_is _ _ _ _ _ rfl).mono ?_; rintro e w' ⟨rfl, rfl⟩) | (go_at_call 55; refine (l1Number_is _ _ _ rfl).mono ?_; rintro e w' ⟨rfl, rfl⟩) | (go_at_call 20; refine (l1Printed_any _ _ (by omega)).mono ?_; rintro e w' ⟨rfl, rfl⟩))
                    go_meet
                    case rel => exact ⟨congrArg Value.bool (by rw [HV.out]; rfl), rfl⟩
                | true =>
                  as_aux_lemma =>
                    cases p2 : plainB (N i).name with
                    | false =>
                      as_aux_lemma =>
                        have HV : Hid (headB (N i) = false) := hd_p2 p2
                        clear HW HT hbx
                        go_wp2_with (first | (go_at_call 21; refine (l1In_is _ _ _ _ _ rfl).mono ?_; rintro e w' ⟨rfl, rfl⟩) | (go_at_call 55; refine (l1Number_is _ _ _ rfl).mono ?_; rintro e w' ⟨rfl, rfl⟩) | (go_at_call 20; refine (l1Printed_any _ _ (by omega)).mono ?_; rintro e w' ⟨rfl, rfl⟩))
                        go_meet
                        case rel => exact ⟨congrArg Value.bool (by rw [HV.out]; rfl), rfl⟩
                    | true =>
                      as_aux_lemma =>
                        have HV : Hid (headB (N i) = true) := hd_true k1 k2 (.inl H4.out) n1 n2 (.inr Z1.out) p1 p2
                        clear HW HT hbx
                        go_wp2_with (first | (go_at_call 21; refine (l1In_is _ _ _ _ _ rfl).mono ?_; rintro e w' ⟨rfl, rfl⟩) | (go_at_call 55; refine (l1Number_is _ _ _ rfl).mono ?_; rintro e w' ⟨rfl, rfl⟩) | (go_at_call 20; refine (l1Printed_any _ _ (by omega)).mono ?_; rintro e w' ⟨rfl, rfl⟩))
                        go_meet
                        case rel => exact ⟨congrArg Value.bool (by rw [HV.out]; rfl), rfl⟩
          · have h4b : ((N i).kind != 4) = true := by simpa using h4
            by_cases z0 : (N i).num = 0
            case neg =>
              as_aux_lemma =>
                have z0b : ((N i).num != 0) = true := by simpa using z0
                have HV : Hid (headB (N i) = false) := hd_num h4 z0
                clear HW HT hbx
                go_wp2_with (first | (go_at_call 21; refine (l1In_is _ _ _ _ _ rfl).mono ?_; rintro e w' ⟨rfl, rfl⟩) | (go_at_call 55; refine (l1Number_is _ _ _ rfl).mono ?_; rintro e w' ⟨rfl, rfl⟩) | (go_at_call 20; refine (l1Printed_any _ _ (by omega)).mono ?_; rintro e w' ⟨rfl, rfl⟩))
                go_meet
                case rel => exact ⟨congrArg Value.bool (by rw [HV.out]; rfl), rfl⟩
            have z0b : ((N i).num != 0) = false := by simpa using z0
            have Z0 : Hid ((N i).num = 0) := z0
            clear z0
            by_cases n1 : -1000000000 ≤ (N i).num
            case neg =>
              as_aux_lemma =>
                have n1b : decide (-1000000000 ≤ (N i).num) = false := decide_eq_false n1
                have HV : Hid (headB (N i) = false) := hd_n1 n1
                clear HW HT hbx
                go_wp2_with (first | (go_at_call 21; refine (l1In_is _ _ _ _ _ rfl).mono ?_; rintro e w' ⟨rfl, rfl⟩) | (go_at_call 55; refine (l1Number_is _ _ _ rfl).mono ?_; rintro e w' ⟨rfl, rfl⟩) | (go_at_call 20; refine (l1Printed_any _ _ (by omega)).mono ?_; rintro e w' ⟨rfl, rfl⟩))
                go_meet
                case rel => exact ⟨congrArg Value.bool (by rw [HV.out]; rfl), rfl⟩
            have n1b : decide (-1000000000 ≤ (N i).num) = true := decide_eq_true n1
            by_cases n2 : (N i).num ≤ 1000000000
            case neg =>
              as_aux_lemma =>
                have n2b : decide ((N i).num ≤ 1000000000) = false := decide_eq_false n2
                have HV : Hid (headB (N i) = false) := hd_n2 n2
                clear HW HT hbx
                go_wp2_with (first | (go_at_call 21; refine (l1In_is _ _ _ _ _ rfl).mono ?_; rintro e w' ⟨rfl, rfl⟩) | (go_at_call 55; refine (l1Number_is _ _ _ rfl).mono ?_; rintro e w' ⟨rfl, rfl⟩) | (go_at_call 20; refine (l1Printed_any _ _ (by omega)).mono ?_; rintro e w' ⟨rfl, rfl⟩))
                go_meet
                case rel => exact ⟨congrArg Value.bool (by rw [HV.out]; rfl), rfl⟩
            have n2b : decide ((N i).num ≤ 1000000000) = true := decide_eq_true n2
            by_cases h5 : (N i).kind = 5
            · have h5b : ((N i).kind != 5) = false := by simpa using h5
              have H5 : Hid ((N i).kind = 5) := h5
              clear h5
              cases p1 : plainB (N i).text with
              | false =>
                as_aux_lemma =>
                  have HV : Hid (headB (N i) = false) := hd_p1 p1
                  clear HW HT hbx
                  go_wp2_with (first | (go_at_call 21; refine (l1In_is _ _ _ _ _ rfl).mono ?_; rintro e w' ⟨rfl, rfl⟩) | (go_at_call 55; refine (l1Number_is _ _ _ rfl).mono ?_; rintro e w' ⟨rfl, rfl⟩) | (go_at_call 20; refine (l1Printed_any _ _ (by omega)).mono ?_; rintro e w' ⟨rfl, rfl⟩))
                  go_meet
                  case rel => exact ⟨congrArg Value.bool (by rw [HV.out]; rfl), rfl⟩
              | true =>
                as_aux_lemma =>
                  cases p2 : plainB (N i).name with
                  | false =>
                    as_aux_lemma =>
                      have HV : Hid (headB (N i) = false) := hd_p2 p2
                      clear HW HT hbx
                      go_wp2_with (first | (go_at_call 21; refine (l1In_is _ _ _ _ _ rfl).mono ?_; rintro e w' ⟨rfl, rfl⟩) | (go_at_call 55; refine (l1Number_is _ _ _ rfl).mono ?_; rintro e w' ⟨rfl, rfl⟩) | (go_at_call 20; refine (l1Printed_any _ _ (by omega)).mono ?_; rintro e w' ⟨rfl, rfl⟩))
                      go_meet
                      case rel => exact ⟨congrArg Value.bool (by rw [HV.out]; rfl), rfl⟩
                  | true =>
                    as_aux_lemma =>
                      have HV : Hid (headB (N i) = true) := hd_true k1 k2 (.inr Z0.out) n1 n2 (.inl H5.out) p1 p2
                      clear HW HT hbx
                      go_wp2_with (first | (go_at_call 21; refine (l1In_is _ _ _ _ _ rfl).mono ?_; rintro e w' ⟨rfl, rfl⟩) | (go_at_call 55; refine (l1Number_is _ _ _ rfl).mono ?_; rintro e w' ⟨rfl, rfl⟩) | (go_at_call 20; refine (l1Printed_any _ _ (by omega)).mono ?_; rintro e w' ⟨rfl, rfl⟩))
                      go_meet
                      case rel => exact ⟨congrArg Value.bool (by rw [HV.out]; rfl), rfl⟩
            · skip
              have h5b : ((N i).kind != 5) = true := by simpa using h5
              cases z1 : (N i).text.toList.isEmpty with
              | false =>
                as_aux_lemma =>
                  have HV : Hid (headB (N i) = false) := hd_txt h5 z1
                  clear HW HT hbx
                  go_wp2_with (first | (go_at_call 21; refine (l1In_is _ _ _ _ _ rfl).mono ?_; rintro e w' ⟨rfl, rfl⟩) | (go_at_call 55; refine (l1Number_is _ _ _ rfl).mono ?_; rintro e w' ⟨rfl, rfl⟩) | (go_at_call 20; refine (l1Printed_any _ _ (by omega)).mono ?_; rintro e w' ⟨rfl, rfl⟩))
                  go_meet
                  case rel => exact ⟨congrArg Value.bool (by rw [HV.out]; rfl), rfl⟩
              | true =>
                as_aux_lemma =>
                  have Z1 : Hid (noText (N i).text = true) := z1
                  cases p1 : plainB (N i).text with
                  | false =>
                    as_aux_lemma =>
                      have HV : Hid (headB (N i) = false) := hd_p1 p1
                      clear HW HT hbx
                      go_wp2_with (first | (go_at_call 21; refine (l1In_is _ _ _ _ _ rfl).mono ?_; rintro e w' ⟨rfl, rfl⟩) | (go_at_call 55; refine (l1Number_is _ _ _ rfl).mono ?_; rintro e w' ⟨rfl, rfl⟩) | (go_at_call 20; refine (l1Printed_any _ _ (by omega)).mono ?_; rintro e w' ⟨rfl, rfl⟩))
                      go_meet
                      case rel => exact ⟨congrArg Value.bool (by rw [HV.out]; rfl), rfl⟩
                  | true =>
                    as_aux_lemma =>
                      cases p2 : plainB (N i).name with
                      | false =>
                        as_aux_lemma =>
                          have HV : Hid (headB (N i) = false) := hd_p2 p2
                          clear HW HT hbx
                          go_wp2_with (first | (go_at_call 21; refine (l1In_is _ _ _ _ _ rfl).mono ?_; rintro e w' ⟨rfl, rfl⟩) | (go_at_call 55; refine (l1Number_is _ _ _ rfl).mono ?_; rintro e w' ⟨rfl, rfl⟩) | (go_at_call 20; refine (l1Printed_any _ _ (by omega)).mono ?_; rintro e w' ⟨rfl, rfl⟩))
                          go_meet
                          case rel => exact ⟨congrArg Value.bool (by rw [HV.out]; rfl), rfl⟩
                      | true =>
                        as_aux_lemma =>
                          have HV : Hid (headB (N i) = true) := hd_true k1 k2 (.inr Z0.out) n1 n2 (.inr Z1.out) p1 p2
                          clear HW HT hbx
                          go_wp2_with (first | (go_at_call 21; refine (l1In_is _ _ _ _ _ rfl).mono ?_; rintro e w' ⟨rfl, rfl⟩) | (go_at_call 55; refine (l1Number_is _ _ _ rfl).mono ?_; rintro e w' ⟨rfl, rfl⟩) | (go_at_call 20; refine (l1Printed_any _ _ (by omega)).mono ?_; rintro e w' ⟨rfl, rfl⟩))
                          go_meet
                          case rel => exact ⟨congrArg Value.bool (by rw [HV.out]; rfl), rfl⟩
      case rest =>
        as_aux_lemma =>
          obtain ⟨rfl, rfl⟩ := hcut
          cases hv : headB (N i) with
          | false =>
            as_aux_lemma =>
              have HV : Hid (¬ ShapeOK N n) := not_head hlt hv
              have HB : Hid (Below w.heap.size w wr) := HW.out.below
              clear HW HT hbx
              go_wp2_with fail
              go_ret
              exact BoolIs.no HV.out (HB.out.alloc HB.out.size _)
          | true =>
            as_aux_lemma =>
              have HV : Hid (headB (N i) = true) := hv
              clear hv
              go_upto_if 73 with (go_at_call 56; refine (l1Holds_is _ _ _ rfl).mono ?_; rintro e w' ⟨rfl, rfl⟩)
              go_cut [] (fun wx => Mid w b off c n N i wr wx)
              case first =>
                as_aux_lemma =>
                  cases hh : holdsB (N i).kind with
                  | true =>
                    as_aux_lemma =>
                      have d0 := (HW.out.deep i hlt).1
                      have d1 := (HW.out.deep i hlt).2
                      simp only [Nat.lt_irrefl, if_false] at d0
                      have hw1 : w.heap.size + 1 < wr.heap.size := by omega
                      have HH : Hid (holdsB (N i).kind = true) := hh
                      go_wp2_with fail
                      go_meet
                      case rel =>
                        refine mid_of hb _ (by simp) ((HW.out.setD hb hlt 1).congr (fun j hj => ?_) (fun _ _ => rfl) (fun _ _ => rfl))
                        by_cases e : j = i
                        · subst e; simp [hN, HH.out]
                        · simp [e]
                  | false =>
                    as_aux_lemma =>
                      have HH : Hid (holdsB (N i).kind = false) := hh
                      go_wp2_with fail
                      go_meet
                      case rel =>
                        refine mid_of hb _ rfl (HW.out.congr (fun j hj => ?_) (fun _ _ => rfl) (fun _ _ => rfl))
                        by_cases e : j = i
                        · subst e; simp [hN, HH.out]
                        · simp [e]
              case rest =>
                as_aux_lemma =>
                  have hsz2 := hcut.size
                  obtain ⟨m0, m1, m2, m3, m4⟩ := hcut.node 0 (by omega)
                  simp only [Nat.zero_mul, Nat.add_zero] at m0 m1 m2 m3 m4
                  have hbx2 := hcut.sw.box
                  have HM : Hid (Mid w b off c n N i wr wc) := hcut
                  clear hcut HW hbx a0 a1 a2 a3 a4
                  by_cases h0 : i = 0
                  · have hi0 : ((i : Int) == 0) = true := by simpa using h0
                    have HI0 : Hid (i = 0) := h0
                    clear h0
                    by_cases hu : (N i).up = -1
                    · have hub : ((N i).up != -1) = false := by simpa using hu
                      have HU : Hid ((N i).up = -1) := hu
                      clear hu
                      cases hm : (N i).name.toList.isEmpty with
                      | true =>
                        as_aux_lemma =>
                          have HW2 : Hid (SWi w b off c n N (i + 1) wc) := mid_zero HI0.out HM.out
                          have HT2 : Hid (ShapeTo N (i + 1)) := shape_zero HI0.out HV.out HT.out HU.out hm
                          go_wp2_with fail
                          go_roundw
                          case rel => exact ⟨i + 1, by omega, by go_num, HW2, HT2⟩
                          case measure => simp [intOf]; omega
                      | false =>
                        as_aux_lemma =>
                          have HN0 : Hid (¬ ShapeOK N n) := not_zero HI0.out hlt (fun h => by rw [show noText (N i).name = false from hm] at h; simp at h)
                          go_wp2_with fail
                          go_ret
                          exact BoolIs.no HN0.out HM.out.sw.below
                    · have hub : ((N i).up != -1) = true := by simpa using hu
                      have HN0 : Hid (¬ ShapeOK N n) := not_zero HI0.out hlt (fun h => hu h.1)
                      go_wp2_with fail
                      go_ret
                      exact BoolIs.no HN0.out HM.out.sw.below
                  · have hi0 : ((i : Int) == 0) = false := by simp; omega
                    by_cases hr : 0 ≤ (N i).up ∧ (N i).up ≤ (i : Int) - 1
                    · obtain ⟨u, hu⟩ : ∃ u : Nat, (N i).up = u := ⟨(N i).up.toNat, by omega⟩
                      have hui : u < i := by omega
                      rw [hu] at m4
                      have HU : Hid ((N i).up = u) := hu
                      clear hu hr
                      obtain ⟨g0, g1, g2, g3, g4⟩ := HM.out.sw.nodes u (by omega)
                      have u0 : (0 : Int) ≤ (u : Int) := by omega
                      have u1 : (u : Int) < (n : Int) := by omega
                      have hin : (decide ((0 : Int) ≤ (u : Int)) && decide ((u : Int) ≤ (i : Int) - 1)) = true := by simp; omega
                      have hbc : b < wc.heap.size := by omega
                      cases hh : holdsB (N u).kind with
                      | false =>
                        as_aux_lemma =>
                          have HN0 : Hid (¬ ShapeOK N n) := not_name (by omega) hlt (not_holds HU.out hh)
                          have HH : Hid (holdsB (N u).kind = false) := hh
                          clear hh
                          go_wp2_with (first | (go_at_call 21; refine (l1In_is _ _ _ true _ hin).mono ?_; rintro e w' ⟨rfl, rfl⟩) | (go_at_call 56; refine (l1Holds_is _ false _ HH.out).mono ?_; rintro e w' ⟨rfl, rfl⟩))
                          go_ret
                          exact BoolIs.no HN0.out HM.out.sw.below
                      | true =>
                        as_aux_lemma =>
                          have HH : Hid (holdsB (N u).kind = true) := hh
                          clear hh
                          go_wp2_with (first | (go_at_call 21; refine (l1In_is _ _ _ true _ hin).mono ?_; rintro e w' ⟨rfl, rfl⟩) | (go_at_call 56; refine (l1Holds_is _ true _ HH.out).mono ?_; rintro e w' ⟨rfl, rfl⟩))
                          go_loop [8] (fun v => ∃ x : Int, v = .int .i64 x ∧ Hid (Climb2 N i u x)) (fun v => (intOf v + 1).toNat)
                          case atStart => exact ⟨_, rfl, climb2_start (by omega)⟩
                          case round =>
                            obtain ⟨x, rfl, HC⟩ := hrel
                            by_cases hx : x = -1
                            · subst hx
                              have HN0 : Hid (¬ ShapeOK N n) := climb2_no HC.out (by omega) hlt HU.out
                              have hne : ((-1 : Int) != (u : Int)) = true := by rw [bne_iff_ne]; omega
                              go_wp2_with fail
                              go_ret
                              exact BoolIs.no HN0.out HM.out.sw.below
                            · obtain ⟨a, rfl, hai⟩ : ∃ a : Nat, x = a ∧ a < i := by
                                rcases HC.out.1 with h | ⟨a, e, h, _⟩
                                · exact absurd h hx
                                · exact ⟨a, e, h⟩
                              clear hx
                              have v0 : (0 : Int) ≤ (a : Int) := by omega
                              have v1 : (a : Int) < (n : Int) := by omega
                              by_cases hau : a = u
                              · have hau' : u = a := hau.symm
                                clear hau
                                subst hau'
                                have hne : ((u : Int) != (u : Int)) = false := by simp
                                have dI := HM.out.sw.deep i hlt
                                have dU := HM.out.sw.deep u (by omega)
                                have eU : ¬ u = i := by omega
                                simp only [if_neg eU, if_pos hui, if_true] at dI dU
                                have dI0 := dI.1
                                have dI1 := dI.2
                                have dU0 := dU.1
                                have hw1 : w.heap.size + 1 < wr.heap.size := by omega
                                have hpre := shape_pre HT.out HU.out hui HC.out
                                have hd0 := hN_le N i
                                have hd1 : depth N u ≤ u + 1 := depth_le hpre u (by omega)
                                have hd2 : (hN N i : Int) ≤ 1 := by omega
                                have hd3 : (depth N u : Int) ≤ 2 ^ 21 := by omega
                                have HPRE : Hid (Pre N (i + 1)) := hpre
                                clear hpre hd0 hd1
                                clear dI dU
                                go_wp2_with fail
                                go_cut [] (fun wx => Mid2 w b off c n N i wr wx)
                                case first =>
                                  as_aux_lemma =>
                                    go_region
                                    go_wp2
                                    go_meet
                                    case rel => exact (mid2_of hb hlt HM.out HPRE.out (by omega) HU.out _ rfl hw1).drew hb
                                case rest =>
                                  as_aux_lemma =>
                                    clear dI0 dI1 dU0 g0 g1 g2 g3 g4 m0 m1 m2 m3 m4 hbx2
                                    have hsz3 := hcut.size
                                    obtain ⟨m0, m1, m2, m3, m4⟩ := hcut.node 0 (by omega)
                                    simp only [Nat.zero_mul, Nat.add_zero] at m0 m1 m2 m3 m4
                                    rw [HU.out] at m4
                                    have hbx3 := hcut.sw.box
                                    obtain ⟨g0, g1, g2, g3, g4⟩ := hcut.sw.nodes u (by omega)
                                    have dI := (hcut.sw.deep i hlt).1
                                    simp only [if_pos (Nat.lt_succ_self i)] at dI
                                    have HM2 : Hid (Mid2 w b off c n N i wr _) := hcut
                                    clear hcut HM
                                    by_cases k7 : (N u).kind = 7
                                    · have nm := name_map HU.out k7 (head_content HV.out).2
                                      have HNI : Hid (NameOK N i ↔ (seenB N i u && !Op.bytesLess (lastNm N i u).toList (N i).name.toList) = false) := nm
                                      obtain ⟨l0, l1⟩ := HM2.out.sw.last u (by omega)
                                      obtain ⟨s0, s1⟩ := HM2.out.sw.seen u (by omega)
                                      dsimp only at l0 s0
                                      have hw2 : w.heap.size + 1 + 1 < wc.heap.size := by omega
                                      have hw3 : w.heap.size + 1 + 1 + 1 < wc.heap.size := by omega
                                      have hw4 : w.heap.size + 1 < wc.heap.size := by omega
                                      rw [k7] at g0
                                      have HK7 : Hid ((N u).kind = 7) := k7
                                      clear k7 nm
                                      cases hsn : seenB N i u with
                                      | false =>
                                        as_aux_lemma =>
                                          rw [hsn] at s0
                                          have HNM : Hid (NameOK N i) := HNI.out.2 (by rw [hsn]; rfl)
                                          have HSN : Hid (seenB N i u = false) := hsn
                                          clear hsn
                                          by_cases hd : depth N i ≤ 6
                                          · have hdI : ¬ (6 : Int) < (depth N i : Int) := by omega
                                            have HT2 : Hid (ShapeTo N (i + 1)) := end_shape HT.out HV.out (by omega) HU.out hui HC.out HNM.out hd
                                            go_wp2_with fail
                                            go_quiet (fail)
                                            go_wp2_with fail
                                            go_roundw
                                            case rel => exact ⟨i + 1, by omega, by go_num, (end_map hb (by omega) (by omega) HU.out HK7.out HM2.out).drewN hb _, HT2⟩
                                            case measure => simp [intOf]; omega
                                          · have hdI : (6 : Int) < (depth N i : Int) := by omega
                                            have HN0 : Hid (¬ ShapeOK N n) := not_deep hlt hd
                                            go_wp2_with fail
                                            go_quiet (fail)
                                            go_wp2_with fail
                                            go_ret
                                            exact BoolIs.no HN0.out (drewN_below ((HM2.out.sw.below.setCell (by simp; omega) _).setCell (by simp; omega) _) _)
                                      | true =>
                                        as_aux_lemma =>
                                          rw [hsn] at s0
                                          have HSN : Hid (seenB N i u = true) := hsn
                                          cases hbl : Op.bytesLess (lastNm N i u).toList (N i).name.toList with
                                          | true =>
                                            as_aux_lemma =>
                                              have HNM : Hid (NameOK N i) := HNI.out.2 (by rw [hsn, hbl]; rfl)
                                              clear hsn
                                              by_cases hd : depth N i ≤ 6
                                              · have hdI : ¬ (6 : Int) < (depth N i : Int) := by omega
                                                have HT2 : Hid (ShapeTo N (i + 1)) := end_shape HT.out HV.out (by omega) HU.out hui HC.out HNM.out hd
                                                go_wp2_with fail
                                                go_quiet (fail)
                                                go_wp2_with fail
                                                go_roundw
                                                case rel => exact ⟨i + 1, by omega, by go_num, (end_map hb (by omega) (by omega) HU.out HK7.out HM2.out).drewN hb _, HT2⟩
                                                case measure => simp [intOf]; omega
                                              · have hdI : (6 : Int) < (depth N i : Int) := by omega
                                                have HN0 : Hid (¬ ShapeOK N n) := not_deep hlt hd
                                                go_wp2_with fail
                                                go_quiet (fail)
                                                go_wp2_with fail
                                                go_ret
                                                exact BoolIs.no HN0.out (drewN_below ((HM2.out.sw.below.setCell (by simp; omega) _).setCell (by simp; omega) _) _)
                                          | false =>
                                            as_aux_lemma =>
                                              have HN0 : Hid (¬ ShapeOK N n) := not_name (by omega) hlt (fun h => by have := HNI.out.1 h; rw [hsn, hbl] at this; simp at this)
                                              clear hsn
                                              go_wp2_with fail
                                              go_quiet (fail)
                                              go_wp2_with fail
                                              go_ret
                                              exact BoolIs.no HN0.out (drewN_below HM2.out.sw.below _)
                                    · have nm := name_list HU.out k7 HH.out
                                      have k7b : ((N u).kind == 7) = false := by simpa using k7
                                      cases hm : (N i).name.toList.isEmpty with
                                      | true =>
                                        as_aux_lemma =>
                                          have HNM : Hid (NameOK N i) := nm.2 hm
                                          have HK7 : Hid ((N u).kind ≠ 7) := k7
                                          clear nm k7
                                          by_cases hd : depth N i ≤ 6
                                          · have hdI : ¬ (6 : Int) < (depth N i : Int) := by omega
                                            have HT2 : Hid (ShapeTo N (i + 1)) := end_shape HT.out HV.out (by omega) HU.out hui HC.out HNM.out hd
                                            go_wp2_with fail
                                            go_roundw
                                            case rel => exact ⟨i + 1, by omega, by go_num, end_list HU.out HK7.out HM2.out, HT2⟩
                                            case measure => simp [intOf]; omega
                                          · have hdI : (6 : Int) < (depth N i : Int) := by omega
                                            have HN0 : Hid (¬ ShapeOK N n) := not_deep hlt hd
                                            go_wp2_with fail
                                            go_ret
                                            exact BoolIs.no HN0.out HM2.out.sw.below
                                      | false =>
                                        as_aux_lemma =>
                                          have HN0 : Hid (¬ ShapeOK N n) := not_name (by omega) hlt (fun h => by have := nm.1 h; rw [show noText (N i).name = false from hm] at this; simp at this)
                                          clear nm k7
                                          go_wp2_with fail
                                          go_ret
                                          exact BoolIs.no HN0.out HM2.out.sw.below
                              · have hne : ((a : Int) != (u : Int)) = true := by simp; omega
                                obtain ⟨s0, s1, s2⟩ := climb2_step HT.out.pre hai hau HC.out
                                have HC2 : Hid (Climb2 N i u (N a).up) := s0
                                obtain ⟨_, _, _, _, f4⟩ := HM.out.sw.nodes a (by omega)
                                clear s0 hau
                                go_wp2_with fail
                                go_round
                                case rel => exact ⟨_, rfl, HC2⟩
                                case measure => simp [intOf]; omega
                    · have HN0 : Hid (¬ ShapeOK N n) := not_range (by omega) hlt hr
                      have hin : (decide ((0 : Int) ≤ (N i).up) && decide ((N i).up ≤ (i : Int) - 1)) = false := by
                        rw [← Bool.not_eq_true, Bool.and_eq_true, decide_eq_true_eq, decide_eq_true_eq]
                        exact hr
                      clear hr
                      go_wp2_with (go_at_call 21; refine (l1In_is _ _ _ false _ hin).mono ?_; rintro e w' ⟨rfl, rfl⟩)
                      go_ret
                      exact BoolIs.no HN0.out HM.out.sw.below
    · have HB : Hid (Below w.heap.size w wr) := HW.out.below
      have hbx := HW.out.box
      obtain rfl : i = n := by omega
      clear HW
      go_wp2_with (go_at_call 21; refine (l1In_is _ _ _ _ _ rfl).mono ?_; rintro e w' ⟨rfl, rfl⟩)
      go_ret
      refine BoolIs.of ?_ HB.out
      simp only [Bool.and_eq_true, decide_eq_true_eq]
      exact ⟨fun ⟨h1, h2⟩ => ⟨by omega, by omega, HT.out⟩, fun ⟨h1, h2, _⟩ => ⟨by omega, by omega⟩⟩


set_option maxRecDepth 100000 in
set_option maxHeartbeats 1000000 in
theorem l1Shape_none (a : Option Addr) (c : Nat) (N : Nat → Nd) (w : World) :
    Calls Tryz.prog 40 #[.agg #[.slice a 0 c]] w (BoolIs (ShapeOK N 0) w) := by
  have hm1 := make_ints 0 (by omega)
  have hm2 := make_strs 0 (by omega)
  have hm3 := make_bools 0 (by omega)
  have HN : Hid (¬ ShapeOK N 0) := fun h => by have := h.1; omega
  simp only [Int.natCast_zero] at hm1 hm2 hm3
  go_enter Tryz.func40, Tryz.ntmps40
  go_wp2_with fail
  go_rounds 1
  go_ret
  exact BoolIs.no HN.out (by go_grown)

end Go.Proofs.YtjbjgkkkkghcgaaGreatDoor
