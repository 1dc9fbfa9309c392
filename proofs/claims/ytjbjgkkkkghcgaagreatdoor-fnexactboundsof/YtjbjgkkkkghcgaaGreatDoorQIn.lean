/- Whether a number lies between two, by the specification. Whether a value has no nodes. The names of a path: the specification. -/
import Derived.Test.YtjbjgkkkkghcgaaGreatDoorGoodOwn
import Derived.Test.YtjbjgkkkkghcgaaGreatDoorQPlN
import Derived.Test.YtjbjgkkkkghcgaaGreatDoorQPathO
import Derived.Test.YtjbjgkkkkghcgaaGreatDoorStrs0
import Derived.Test.YtjbjgkkkkghcgaaGreatDoorQuote
namespace Go.Proofs.YtjbjgkkkkghcgaaGreatDoor
open Go.RowKit
set_option linter.unusedVariables false

set_option maxRecDepth 100000 in
set_option maxHeartbeats 1000000 in
theorem l1In_any (x lo hi : Int) (w : World) : Calls Tryz.prog 21 #[.int .i64 x, .int .i64 lo, .int .i64 hi] w fun e w' => e = .returned (.bool (decide (lo ≤ x) && decide (x ≤ hi))) ∧ Below w.heap.size w w' := by
  by_cases h0 : lo ≤ x
  · go_enter Tryz.func21, Tryz.ntmps21
    go_wp2
    go_ret
    exact ⟨by simp [h0], by go_grown⟩
  · go_enter Tryz.func21, Tryz.ntmps21
    go_wp2
    go_ret
    have h1 : decide (lo ≤ x) = false := decide_eq_false (by omega)
    exact ⟨by rw [h1]; rfl, by go_grown⟩

end Go.Proofs.YtjbjgkkkkghcgaaGreatDoor
namespace Go.Proofs.YtjbjgkkkkghcgaaGreatDoor
open Go.RowKit
set_option linter.unusedVariables false

set_option maxHeartbeats 400000 in
theorem l5Zero_any (a : Option Addr) (c n : Nat) (w : World) (hn : n ≤ 2 ^ 20) :
    Calls Tryz.prog 23 #[.agg #[.slice a n c]] w (BoolIs (n = 0) w) := by
  have hal : ∀ o, Below w.heap.size w (w.alloc o) := fun o => (Below.refl _ _).alloc (Nat.le_refl _) o
  go_enter Tryz.func23, Tryz.ntmps23
  go_wp2
  go_ret
  exact BoolIs.of (by simp) (hal _)

end Go.Proofs.YtjbjgkkkkghcgaaGreatDoor
namespace Go.Proofs.YtjbjgkkkkghcgaaGreatDoor
open Go.RowKit
set_option linter.unusedVariables false

theorem ext_tail (b : UInt8) (t : List UInt8) : (strL (b :: t)).extract 1 (strL (b :: t)).size = strL t := by
  apply ByteArray.ext
  simp [strL, ByteArray.size]
theorem ext_head (b : UInt8) (t : List UInt8) : (strL (b :: t)).extract 0 1 = strL [b] := by
  apply ByteArray.ext
  simp [strL]
theorem emp_cons (b : UInt8) (t : List UInt8) : (strL (b :: t)).toList.isEmpty = false := by rw [Lib.toList_data]; rfl
theorem emp_nil : (strL []).toList.isEmpty = true := by rw [Lib.toList_data]; rfl

theorem pos_cons (b : UInt8) (t : List UInt8) : 0 < (strL (b :: t)).size := by rw [strL_size]; simp
theorem at_head (b : UInt8) (t : List UInt8) (h : 0 < (strL (b :: t)).size) : (strL (b :: t))[0] = b := rfl
theorem ne_head {b : UInt8} {t : List UInt8} {v : Nat} (hv : v < 256) (h : 0 < (strL (b :: t)).size) (hb : b ≠ UInt8.ofNat v) : (((strL (b :: t))[0].toNat : Int) != (v : Int)) = true := by
  rw [at_head]
  cases hc : ((b.toNat : Int) == (v : Int)) with
  | true => exact absurd ((byte_eq b v hv).1 hc) hb
  | false => rw [bne, hc]; rfl
theorem is_head {b : UInt8} {t : List UInt8} {v : Nat} (hv : v < 256) (h : 0 < (strL (b :: t)).size) (hb : b = UInt8.ofNat v) : (((strL (b :: t))[0].toNat : Int) != (v : Int)) = false := by
  rw [at_head, bne, (byte_eq b v hv).2 hb]
  rfl

theorem eq_head {b : UInt8} {t : List UInt8} {v : Nat} (hv : v < 256) (h : 0 < (strL (b :: t)).size) (hb : b = UInt8.ofNat v) : (((strL (b :: t))[0].toNat : Int) == (v : Int)) = true := by
  rw [at_head, (byte_eq b v hv).2 hb]
theorem nq_head {b : UInt8} {t : List UInt8} {v : Nat} (hv : v < 256) (h : 0 < (strL (b :: t)).size) (hb : b ≠ UInt8.ofNat v) : (((strL (b :: t))[0].toNat : Int) == (v : Int)) = false := by
  rw [at_head]
  cases hc : ((b.toNat : Int) == (v : Int)) with
  | true => exact absurd ((byte_eq b v hv).1 hc) hb
  | false => rfl

theorem allN_none {l r : List UInt8} {xs : List (List UInt8)} (h : allN (segsOf l) = (allN (segsOf r)).map (xs ++ ·)) (hr : allN (segsOf r) = none) : allN (segsOf l) = none := by rw [h, hr]; rfl

/-- A slice with room for what it holds. -/
def CapS (v : Value) : Prop := ∃ a n c, v = .slice a n c ∧ n ≤ c
/-- What l3Path answers, and its list has room for what it holds. -/
def NamesC (s : List UInt8) (w : World) (e : Ending) (w' : World) : Prop :=
  ∃ v g, e = .returned (.tuple #[v, .bool (namesL s).isSome]) ∧ w.heap.size ≤ g ∧ OwnS w' g v (namesN s) (namesF s) ∧ Below w.heap.size w w' ∧ CapS v
theorem NamesC.no {s : List UInt8} {w w' : World} (h : namesL s = none) (hb : Below w.heap.size w w') : NamesC s w (.returned (.tuple #[.slice none 0 0, .bool false])) w' := by
  obtain ⟨v, g, h1, h2, h3, h4⟩ := NamesIs.no h hb
  refine ⟨_, g, ?_, h2, ?_, h4, none, 0, 0, rfl, Nat.le_refl _⟩
  · rw [h]; rfl
  · have e : v = .slice none 0 0 := by
      have h5 := Ending.returned.inj h1
      simp at h5
      exact h5.1.symm
    rw [← e]
    exact h3
theorem NamesC.yes {s : List UInt8} {l : List (List UInt8)} {w w' : World} {v : Value} {B : Nat} (h : namesL s = some l) (hl : l.length ≤ 2 ^ 30) (hB : w.heap.size ≤ B) (ho : w'.ownsRow B 9 1 v l.length (strCells l)) (hb : Below w.heap.size w w') : NamesC s w (.returned (.tuple #[v, .bool true])) w' := by
  obtain ⟨g, hg, hi⟩ := own_rowS ho hl
  refine ⟨v, g, by rw [h]; rfl, by omega, by unfold namesN namesF; rw [h]; exact hi, hb, ?_⟩
  rcases ho.2 with ⟨rfl, _⟩ | ⟨g', cap, cur, rfl, _, _, hle, _⟩
  · exact ⟨_, _, _, rfl, Nat.le_refl _⟩
  · exact ⟨_, _, _, rfl, hle⟩

set_option maxRecDepth 100000 in
set_option maxHeartbeats 4000000 in
theorem l3Path_c (l : List UInt8) (w : World) (hs : l.length ≤ 2 ^ 20) :
    Calls Tryz.prog 10 #[.string (strL l)] w (NamesC l w) := by
  obtain ⟨i0, hi, hz0, hz1, hz2⟩ := info_parts infoStr1
  have HI0 : Hid (Tryz.prog.info? 9 = some i0 ∧ i0.zero = some (.string ⟨#[]⟩) ∧ i0.size = 1 ∧ i0.bytes = 16) := ⟨hi, hz0, hz1, hz2⟩
  clear hi hz0 hz1 hz2
  by_cases h60 : 60 < l.length
  · have HS : Hid (namesL l = none) := by
      show _ = _
      unfold namesL
      rw [if_neg (fun h => by omega)]
    have h1 : 60 < (strL l).size := by rw [strL_size]; exact h60
    go_enter Tryz.func10, Tryz.ntmps10
    go_wp2_with fail
    exact bodyPost_ret (v := .tuple #[.slice none 0 0, .bool false]) (by simp [results, Tryz.results10, go_sem]) rfl (NamesC.no HS.out (Below.refl _ _))
  by_cases hbad : ∃ b t, l = b :: t ∧ b ≠ 47
  · obtain ⟨b, t, rfl, hb⟩ := hbad
    have HS : Hid (namesL (b :: t) = none) := by
      show _ = _
      unfold namesL
      rw [if_neg (fun h => by rcases h.2 with h | h; simp at h; simp at h; exact hb h)]
    have e1 := emp_cons b t
    have p1 := pos_cons b t
    have n1 : (((strL (b :: t))[0].toNat : Int) != 47) = true := ne_head (t := t) (v := 47) (by omega) p1 hb
    have h1 : ¬ 60 < (strL (b :: t)).size := by rw [strL_size]; exact h60
    clear hs h60 hb
    go_enter Tryz.func10, Tryz.ntmps10
    go_wp2_with fail
    exact bodyPost_ret (v := .tuple #[.slice none 0 0, .bool false]) (by simp [results, Tryz.results10, go_sem]) rfl (NamesC.no HS.out (Below.refl _ _))
  have HN : Hid (namesL l = allN (segsOf l)) := by
    show _ = _
    unfold namesL
    rw [if_pos]
    refine ⟨by omega, ?_⟩
    cases l with
    | nil => exact .inl rfl
    | cons b t =>
      by_cases hb : b = 47
      · subst hb; exact .inr rfl
      · exact absurd ⟨b, t, rfl, hb⟩ hbad
  have HSH : Hid (l = [] ∨ ∃ t, l = 47 :: t) := by
    cases l with
    | nil => exact .inl rfl
    | cons b t =>
      by_cases hb : b = 47
      · subst hb; exact .inr ⟨t, rfl⟩
      · exact absurd ⟨b, t, rfl, hb⟩ hbad
  have h1 : ¬ 60 < (strL l).size := by rw [strL_size]; exact h60
  have hl60 : l.length ≤ 60 := by omega
  clear hbad hs h60
  rcases HSH.out with rfl | ⟨t0, rfl⟩
  · have he := emp_nil
    have HS : Hid (namesL [] = some []) := by show _ = _; rw [HN.out]; rfl
    go_enter Tryz.func10, Tryz.ntmps10
    go_wp2_with fail
    go_rounds 1
    exact bodyPost_ret (v := .tuple #[.slice none 0 0, .bool true]) (by simp [results, Tryz.results10, go_sem]) rfl (NamesC.yes HS.out (by simp) (Nat.le_refl _) (World.ownsRow_nil _ _ _ _) (Below.refl _ _))
  have e1 := emp_cons 47 t0
  have p1 := pos_cons 47 t0
  have n1 : (((strL (47 :: t0))[0].toNat : Int) != 47) = false := is_head (t := t0) (v := 47) (by omega) p1 rfl
  go_enter Tryz.func10, Tryz.ntmps10
  go_wp2_with fail
  go_loopw [0, 4] (fun sv ov wr => ∃ (r : List UInt8) (xs : List (List UInt8)), sv = .string (strL r) ∧ xs.length + r.length ≤ 60 ∧ Hid ((r = [] ∨ ∃ t, r = 47 :: t) ∧ wr.ownsRow w.heap.size 9 1 ov xs.length (strCells xs) ∧ allN (segsOf (47 :: t0)) = (allN (segsOf r)).map (xs ++ ·) ∧ Below w.heap.size w wr)) (fun sv _ _ => strSz sv)
  case atStart => exact ⟨47 :: t0, [], rfl, by simpa using hl60, .inr ⟨t0, rfl⟩, World.ownsRow_nil _ _ _ _, by simp, Below.refl _ _⟩
  case round =>
    obtain ⟨r, xs, rfl, hx, HR⟩ := hrel
    clear e1 n1 h1
    rcases HR.out.1 with rfl | ⟨t, rfl⟩
    · have he := emp_nil
      have HS : Hid (namesL (47 :: t0) = some xs) := by
        show _ = _
        rw [HN.out, HR.out.2.2.1]
        simp [segsOf, allN]
      obtain ⟨va, vn, vc, rfl⟩ : ∃ va vn vc, u4 = .slice va vn vc := by
        rcases HR.out.2.1.2 with ⟨rfl, _⟩ | ⟨g, cap, cur, rfl, _⟩
        · exact ⟨_, _, _, rfl⟩
        · exact ⟨_, _, _, rfl⟩
      go_wp2_with fail
      exact bodyPost_ret (v := .tuple #[.slice va vn vc, .bool true]) (by simp [results, Tryz.results10, go_sem]) rfl (NamesC.yes HS.out (by omega) (Nat.le_refl _) HR.out.2.1 HR.out.2.2.2)
    · have e2 := emp_cons 47 t
      have p2 := pos_cons 47 t
      have et : Hid ((strL (47 :: t)).extract 1 (strL (47 :: t)).size = strL t) := ext_tail 47 t
      have hxl : xs.length + t.length ≤ 59 := by simp at hx; omega
      have p3 : 1 ≤ (strL (47 :: t)).size := p2
      have p4 : (strL (47 :: t)).size ≤ 60 := by rw [strL_size]; simp; omega
      go_wp2_with fail
      go_loopw [0, 5] (fun sv nv wr2 => ∃ (g1 r2 x : List UInt8), sv = .string (strL r2) ∧ nv = .string (strL x) ∧ x.length + r2.length ≤ t.length ∧ Hid (t = g1 ++ r2 ∧ (∀ b ∈ g1, b ≠ 47) ∧ unesc g1 = some x) ∧ wr2 = wr) (fun sv _ _ => strSz sv)
      case atStart => exact ⟨[], t, [], by rw [et.out], rfl, by simp, ⟨rfl, by simp, rfl⟩, rfl⟩
      case round =>
        obtain ⟨g1, r2, x, rfl, rfl, hxr, HG, rfl⟩ := hrel
        clear e2 p3 p4
        have hx20 : (strL x).size ≤ 2 ^ 20 := by rw [strL_size]; omega
        cases r2 with
        | nil =>
          have he := emp_nil
          go_wp2_with fail
          refine (l1Printed_any (strL x) _ (by omega)).mono ?_
          rintro e w0 ⟨rfl, hw0⟩
          have hw := hw0.symm
          subst hw
          clear hw0
          have HE : Hid (allN (segs t) = if okL x then (allN (segsOf ([]))).map (x :: ·) else none) := by
            show _ = _
            rw [HG.out.1]
            exact read_end HG.out.2.1 HG.out.2.2 (.inl rfl)
          cases hpl : plainB (strL x) with
          | false =>
            have HS : Hid (namesL (47 :: t0) = none) := by
              show _ = _
              rw [HN.out]
              exact allN_none HR.out.2.2.1 (by show allN (segs t) = none; rw [HE.out, if_neg (by rw [← plain_okL, hpl]; simp)])
            go_wp2_with fail
            exact bodyPost_ret (v := .tuple #[.slice none 0 0, .bool false]) (by simp [results, Tryz.results10, go_sem]) rfl (NamesC.no HS.out HR.out.2.2.2)
          | true =>
            have HA : Hid (allN (segsOf (47 :: t0)) = (allN (segsOf ([]))).map ((xs ++ [x]) ++ ·)) := by
              show _ = _
              rw [HR.out.2.2.1]
              show (allN (segs t)).map _ = _
              rw [HE.out, if_pos (by rw [← plain_okL, hpl]), Option.map_map]
              congr 1
              funext y
              simp
            have hBz := HR.out.2.2.2.size
            have HM : Hid (strSz (.string (strL ([]))) < strSz (.string (strL (47 :: t)))) := by
              show (strL ([])).size < (strL (47 :: t)).size
              rw [strL_size, strL_size]
              simp at hxr ⊢
              try omega
            have hx1 : xs.length + 1 + ([] : List UInt8).length ≤ 60 := by simp at hxr ⊢; omega
            go_wp2_with (first | (at_builtin; refine wpList_append_own _ rfl _ _ 35 rfl w.heap.size 9 i0 _ 1 16 Tryz.underlying35 HI0.out.1 HI0.out.2.1 HI0.out.2.2.1 HI0.out.2.2.2 rfl (by decide) _ _ _ rfl (World.ownsRow.alloc HR.out.2.1 _) ⟨wr.heap.size, 0, none⟩ 1 1 [.string (strL x)] rfl rfl ?c1 ?c2 ?c3 ?c4 ?c5 ?_))
            case c1 => exact one_news _ _ _
            case c2 => simp [Value.oneCell']
            case c3 => unfold maxLen; omega
            case c4 => omega
            case c5 => simp; omega
            · intro v' w1 hown' hgrow _
              have HB : Hid (Below w.heap.size w w1) := grow_below HR.out.2.1 _ HR.out.2.2.2 hBz hgrow
              have HO : Hid (w1.ownsRow w.heap.size 9 1 v' (xs ++ [x]).length (strCells (xs ++ [x]))) := by
                show World.ownsRow _ _ _ _ _ _ _
                rw [List.length_append, show strCells (xs ++ [x]) = strCells xs ++ [.string (strL x)] by simp [strCells]]
                exact hown'
              clear hown' hgrow
              go_wp2
              go_roundw
              case rel => exact ⟨[], xs ++ [x], rfl, by rw [List.length_append]; exact hx1, (.inl rfl), HO.out, HA.out, HB.out⟩
              case measure => exact HM.out
        | cons b r3 =>
          have e3 := emp_cons b r3
          have p5 := pos_cons b r3
          by_cases hb : b = 47
          · subst hb
            have n2 : (((strL (47 :: r3))[0].toNat : Int) != 47) = false := is_head (t := r3) (v := 47) (by omega) p5 rfl
            go_wp2_with fail
            refine (l1Printed_any (strL x) _ (by omega)).mono ?_
            rintro e w0 ⟨rfl, hw0⟩
            have hw := hw0.symm
            subst hw
            clear hw0
            have HE : Hid (allN (segs t) = if okL x then (allN (segsOf (47 :: r3))).map (x :: ·) else none) := by
              show _ = _
              rw [HG.out.1]
              exact read_end HG.out.2.1 HG.out.2.2 (.inr ⟨r3, rfl⟩)
            cases hpl : plainB (strL x) with
            | false =>
              have HS : Hid (namesL (47 :: t0) = none) := by
                show _ = _
                rw [HN.out]
                exact allN_none HR.out.2.2.1 (by show allN (segs t) = none; rw [HE.out, if_neg (by rw [← plain_okL, hpl]; simp)])
              go_wp2_with fail
              exact bodyPost_ret (v := .tuple #[.slice none 0 0, .bool false]) (by simp [results, Tryz.results10, go_sem]) rfl (NamesC.no HS.out HR.out.2.2.2)
            | true =>
              have HA : Hid (allN (segsOf (47 :: t0)) = (allN (segsOf (47 :: r3))).map ((xs ++ [x]) ++ ·)) := by
                show _ = _
                rw [HR.out.2.2.1]
                show (allN (segs t)).map _ = _
                rw [HE.out, if_pos (by rw [← plain_okL, hpl]), Option.map_map]
                congr 1
                funext y
                simp
              have hBz := HR.out.2.2.2.size
              have HM : Hid (strSz (.string (strL (47 :: r3))) < strSz (.string (strL (47 :: t)))) := by
                show (strL (47 :: r3)).size < (strL (47 :: t)).size
                rw [strL_size, strL_size]
                simp at hxr ⊢
                try omega
              have hx1 : xs.length + 1 + (47 :: r3 : List UInt8).length ≤ 60 := by simp at hxr ⊢; omega
              go_wp2_with (first | (at_builtin; refine wpList_append_own _ rfl _ _ 35 rfl w.heap.size 9 i0 _ 1 16 Tryz.underlying35 HI0.out.1 HI0.out.2.1 HI0.out.2.2.1 HI0.out.2.2.2 rfl (by decide) _ _ _ rfl (World.ownsRow.alloc HR.out.2.1 _) ⟨wr.heap.size, 0, none⟩ 1 1 [.string (strL x)] rfl rfl ?c1 ?c2 ?c3 ?c4 ?c5 ?_))
              case c1 => exact one_news _ _ _
              case c2 => simp [Value.oneCell']
              case c3 => unfold maxLen; omega
              case c4 => omega
              case c5 => simp; omega
              · intro v' w1 hown' hgrow _
                have HB : Hid (Below w.heap.size w w1) := grow_below HR.out.2.1 _ HR.out.2.2.2 hBz hgrow
                have HO : Hid (w1.ownsRow w.heap.size 9 1 v' (xs ++ [x]).length (strCells (xs ++ [x]))) := by
                  show World.ownsRow _ _ _ _ _ _ _
                  rw [List.length_append, show strCells (xs ++ [x]) = strCells xs ++ [.string (strL x)] by simp [strCells]]
                  exact hown'
                clear hown' hgrow
                go_wp2
                go_roundw
                case rel => exact ⟨47 :: r3, xs ++ [x], rfl, by rw [List.length_append]; exact hx1, (.inr ⟨r3, rfl⟩), HO.out, HA.out, HB.out⟩
                case measure => exact HM.out
          · have n2 : (((strL (b :: r3))[0].toNat : Int) != 47) = true := ne_head (t := r3) (v := 47) (by omega) p5 hb
            have p6 : 1 ≤ (strL (b :: r3)).size := p5
            have eh := ext_head b r3
            have et3 := ext_tail b r3
            have l1 : (strL [b]).size = 1 := rfl
            by_cases h126 : b = 126
            · subst h126
              have q1 : ((strL [126]).toList == [126]) = true := by rw [Lib.toList_data]; rfl
              cases r3 with
              | nil =>
                have e4 := emp_nil
                have HS : Hid (namesL (47 :: t0) = none) := by
                  show _ = _
                  rw [HN.out]
                  exact allN_none HR.out.2.2.1 (by show allN (segs t) = none; rw [HG.out.1]; exact read_bad HG.out.2.1 HG.out.2.2 (.inl rfl))
                go_wp2_with fail
                exact bodyPost_ret (v := .tuple #[.slice none 0 0, .bool false]) (by simp [results, Tryz.results10, go_sem]) rfl (NamesC.no HS.out HR.out.2.2.2)
              | cons c r4 =>
                have e4 := emp_cons c r4
                have p7 := pos_cons c r4
                have p8 : 1 ≤ (strL (c :: r4)).size := p7
                have et4 := ext_tail c r4
                by_cases h48 : c = 48
                · subst h48
                  have m48 : (((strL (48 :: r4))[0].toNat : Int) != 48) = false := is_head (t := r4) (v := 48) (by omega) p7 rfl
                  have m49 : (((strL (48 :: r4))[0].toNat : Int) == 49) = false := nq_head (t := r4) (v := 49) (by omega) p7 (by decide)
                  have HG2 : Hid (t = (g1 ++ [126, 48]) ++ r4 ∧ (∀ y ∈ g1 ++ [126, 48], y ≠ 47) ∧ unesc (g1 ++ [126, 48]) = some (x ++ [126])) := by
                    refine ⟨by rw [HG.out.1]; simp, fun y hy => ?_, read_on HG.out.2.2 unesc_t0⟩
                    rcases List.mem_append.1 hy with hy | hy
                    · exact HG.out.2.1 y hy
                    · (intro e; subst e; simp at hy)
                  go_wp2
                  go_roundw
                  case rel => exact ⟨g1 ++ [126, 48], r4, x ++ [126], rfl, by first | (rw [← strL_append]; rfl) | rw [← strL_append], by simp at hxr ⊢; omega, HG2.out, by first | trivial | rfl⟩
                  case measure =>
                    show (strL (r4)).size < (strL (126 :: 48 :: r4)).size
                    rw [strL_size, strL_size]
                    simp
                    try omega
                · by_cases h49 : c = 49
                  · subst h49
                    have m48 : (((strL (49 :: r4))[0].toNat : Int) != 48) = true := ne_head (t := r4) (v := 48) (by omega) p7 (by decide)
                    have m49 : (((strL (49 :: r4))[0].toNat : Int) != 49) = false := is_head (t := r4) (v := 49) (by omega) p7 rfl
                    have m49e : (((strL (49 :: r4))[0].toNat : Int) == 49) = true := eq_head (t := r4) (v := 49) (by omega) p7 rfl
                    have HG2 : Hid (t = (g1 ++ [126, 49]) ++ r4 ∧ (∀ y ∈ g1 ++ [126, 49], y ≠ 47) ∧ unesc (g1 ++ [126, 49]) = some (x ++ [47])) := by
                      refine ⟨by rw [HG.out.1]; simp, fun y hy => ?_, read_on HG.out.2.2 unesc_t1⟩
                      rcases List.mem_append.1 hy with hy | hy
                      · exact HG.out.2.1 y hy
                      · (intro e; subst e; simp at hy)
                    go_wp2
                    go_roundw
                    case rel => exact ⟨g1 ++ [126, 49], r4, x ++ [47], rfl, by first | (rw [← strL_append]; rfl) | rw [← strL_append], by simp at hxr ⊢; omega, HG2.out, by first | trivial | rfl⟩
                    case measure =>
                      show (strL (r4)).size < (strL (126 :: 49 :: r4)).size
                      rw [strL_size, strL_size]
                      simp
                      try omega
                  · have m48 : (((strL (c :: r4))[0].toNat : Int) != 48) = true := ne_head (t := r4) (v := 48) (by omega) p7 h48
                    have m49 : (((strL (c :: r4))[0].toNat : Int) != 49) = true := ne_head (t := r4) (v := 49) (by omega) p7 h49
                    have HS : Hid (namesL (47 :: t0) = none) := by
                      show _ = _
                      rw [HN.out]
                      exact allN_none HR.out.2.2.1 (by show allN (segs t) = none; rw [HG.out.1]; exact read_bad HG.out.2.1 HG.out.2.2 (.inr ⟨c, r4, rfl, h48, h49⟩))
                    go_wp2_with fail
                    exact bodyPost_ret (v := .tuple #[.slice none 0 0, .bool false]) (by simp [results, Tryz.results10, go_sem]) rfl (NamesC.no HS.out HR.out.2.2.2)
            · have q2 : ((strL [b]).toList == [126]) = false := by
                rw [Lib.toList_data]
                show (([b] : List UInt8) == [126]) = false
                simpa using h126
              have HG2 : Hid (t = (g1 ++ [b]) ++ r3 ∧ (∀ y ∈ g1 ++ [b], y ≠ 47) ∧ unesc (g1 ++ [b]) = some (x ++ [b])) := by
                refine ⟨by rw [HG.out.1]; simp, fun y hy => ?_, read_on HG.out.2.2 (unesc_one h126)⟩
                rcases List.mem_append.1 hy with hy | hy
                · exact HG.out.2.1 y hy
                · (simp at hy; subst hy; exact hb)
              go_wp2
              go_roundw
              case rel => exact ⟨g1 ++ [b], r3, x ++ [b], rfl, by first | (rw [← strL_append]; rfl) | rw [← strL_append], by simp at hxr ⊢; omega, HG2.out, by first | trivial | rfl⟩
              case measure =>
                show (strL (r3)).size < (strL (b :: r3)).size
                rw [strL_size, strL_size]
                simp
                try omega

theorem l3Path_any (l : List UInt8) (w : World) (hs : l.length ≤ 2 ^ 20) :
    Calls Tryz.prog 10 #[.string (strL l)] w (NamesIs l w) :=
  (l3Path_c l w hs).mono fun e w' ⟨v, g, h1, h2, h3, h4, _⟩ => ⟨v, g, h1, h2, h3, h4⟩

end Go.Proofs.YtjbjgkkkkghcgaaGreatDoor
