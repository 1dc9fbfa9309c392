/- A key looked up: the program's find and GetKey, the specification's GetKey. -/
import Derived.Test.YtmiofccmimhabaaTpD
namespace Go.Proofs.Ytmiofccmimhabaa
open Go.RowKit
set_option linter.unusedVariables false

/-- The value of a key, and how many limbs are looked at. -/
def Bt.fnd (key : ByteArray) : Bt → Nat → Option (ByteArray × Nat)
  | .nil, _ => none
  | .node _ k v l r, s => if kLt key k then l.fnd key (s + 1) else if kLt k key then r.fnd key (s + 1) else some (v, s + 1)
theorem Bt.fnd_sh (key : ByteArray) (t : Bt) : ∀ s, t.sh.fnd key s = t.fnd key s := by
  induction t with
  | nil => intro s; rfl
  | node b k v l r ihl ihr => intro s; simp [Bt.sh, Bt.fnd, ihl, ihr]

/-- What find answers. -/
def FindIs (o : Option (ByteArray × Nat)) (e : Ending) (w' : World) : Prop := match o with
  | none => ∃ s : Nat, s ≤ 2 ^ 20 ∧ e = .returned (.tuple #[.pointer none, .int .i64 (s : Int)])
  | some (v, s) => ∃ b, e = .returned (.tuple #[.pointer (some ⟨b, 0, none⟩), .int .i64 (s : Int)]) ∧ w'.cell? ⟨b, 1, none⟩ = some (.string v) ∧ s ≤ 2 ^ 20

set_option maxRecDepth 100000 in
set_option maxHeartbeats 2000000 in
theorem find_any (key : ByteArray) (T : Bt) (w : World) (h : BrAt w T) (hs : T.sz ≤ 60) :
    Calls Try.prog 48 #[.pointer T.pa, .string key] w fun e w' => FindIs (T.fnd key 0) e w' ∧ Below w.heap.size w w' := by
  have HT : Hid (BrAt w T) := h
  clear h
  obtain ⟨o, ho⟩ : ∃ o, o = T.fnd key 0 := ⟨_, rfl⟩
  have HO : Hid (o = T.fnd key 0) := ho
  rw [← ho]
  clear ho
  obtain ⟨pT, hpT⟩ : ∃ p, p = T.pa := ⟨_, rfl⟩
  have HPT : Hid (pT = T.pa) := hpT
  rw [← hpT]
  clear hpT
  go_enter Try.func48, Try.ntmps48
  go_wp2_with fail
  go_loopw [6, 7] (fun lv bv wr => ∃ (s : Nat) (t : Bt), lv = .int .i64 s ∧ bv = .pointer t.pa ∧ s + t.sz ≤ 60 ∧ Hid (BrAt wr t ∧ o = t.fnd key s ∧ Below w.heap.size w wr)) (fun lv _ _ => 61 - (intOf lv).toNat)
  case atStart => exact ⟨0, T, rfl, by rw [HPT.out], by omega, HT.out, HO.out, Below.refl _ _⟩
  case round =>
    obtain ⟨s, t, rfl, rfl, hst, HR⟩ := hrel
    cases t with
    | nil =>
      have HN : Hid (o = none) := HR.out.2.1
      have HB : Hid (Below w.heap.size w wr) := HR.out.2.2
      have hs60 : s ≤ 60 := by simp [Bt.sz] at hst; omega
      dsimp only [Bt.pa]
      clear HR
      go_wp2_with fail
      rw [HN.out]
      exact bodyPost_ret (v := .tuple #[.pointer none, .int .i64 (s : Int)]) (by simp [results, Try.results48, go_sem]) rfl ⟨⟨s, by omega, rfl⟩, HB.out⟩
    | node b k v l r =>
      obtain ⟨⟨a0, a1, a2, a3, a4⟩, _⟩ := HR.out.1.1
      have HF : Hid (o = if kLt key k then l.fnd key (s + 1) else if kLt k key then r.fnd key (s + 1) else some (v, s + 1)) := HR.out.2.1
      have hsz : s + 1 + l.sz ≤ 60 ∧ s + 1 + r.sz ≤ 60 := by rw [Bt.sz] at hst; omega
      have hs59 : s < 60 := by omega
      dsimp only [Bt.pa]
      have HB : Hid (Below w.heap.size w wr) := HR.out.2.2
      have HLR : Hid (BrAt wr l ∧ BrAt wr r) := HR.out.1.2
      clear HR hst
      go_wp2_with fail
      refine (cmpStr_any key k wr).mono ?_
      rintro e w1 ⟨rfl, hw1⟩
      have hw := hw1.symm
      subst hw
      clear hw1
      by_cases h1 : kLt key k
      · have hc : kCmp key k = -1 := by unfold kCmp; rw [if_pos h1]
        have HF' : Hid (o = l.fnd key (s + 1)) := by show _ = _; rw [HF.out, if_pos h1]
        rw [hc]
        go_wp2_with fail
        go_roundw
        case rel => exact ⟨s + 1, l, by go_num, rfl, hsz.1, HLR.out.1, HF'.out, HB.out⟩
        case measure => simp [intOf]; omega
      · by_cases h2 : kLt k key
        · have hc : kCmp key k = 1 := by unfold kCmp; rw [if_neg h1, if_pos h2]
          have HF' : Hid (o = r.fnd key (s + 1)) := by show _ = _; rw [HF.out, if_neg h1, if_pos h2]
          rw [hc]
          go_wp2_with fail
          go_roundw
          case rel => exact ⟨s + 1, r, by go_num, rfl, hsz.2, HLR.out.2, HF'.out, HB.out⟩
          case measure => simp [intOf]; omega
        · have hc : kCmp key k = 0 := by unfold kCmp; rw [if_neg h1, if_neg h2]
          have HF' : Hid (o = some (v, s + 1)) := by show _ = _; rw [HF.out, if_neg h1, if_neg h2]
          have HC : Hid (wr.cell? ⟨b, 1, none⟩ = some (.string v)) := a1
          rw [hc]
          go_wp2_with fail
          rw [HF'.out]
          exact bodyPost_ret (v := .tuple #[.pointer (some ⟨b, 0, none⟩), .int .i64 ((s + 1 : Nat) : Int)]) (by simp [results, Try.results48, go_sem]) rfl ⟨⟨b, rfl, HC.out, by omega⟩, HB.out⟩

/-- What GetKey tells. -/
def GkTold (L : List Lb) (key v : ByteArray) (s : Int) (q : Bool) : Prop :=
  (GoodL L ∧ ∃ T : Bt, T.ok ∧ T.limbs 0 = L ∧ ((∃ m : Nat, T.fnd key 0 = some (v, m) ∧ s = (m : Int) ∧ q = true) ∨ (T.fnd key 0 = none ∧ v = ⟨#[]⟩ ∧ s = 0 ∧ q = false))) ∨ (¬ GoodL L ∧ v = ⟨#[]⟩ ∧ s = 0 ∧ q = false)
theorem GkTold.same {L : List Lb} {key v v' : ByteArray} {s s' : Int} {q q' : Bool} (h : GkTold L key v s q) (k : GkTold L key v' s' q') : v = v' ∧ s = s' ∧ q = q' := by
  rcases h with ⟨h1, T, _, h2, h3⟩ | ⟨h1, rfl, rfl, rfl⟩
  · rcases k with ⟨k1, S, _, k2, k3⟩ | ⟨k1, _⟩
    · have e : T.fnd key 0 = S.fnd key 0 := by rw [← Bt.fnd_sh, limbs_shape T S 0 (h2.trans k2.symm), Bt.fnd_sh]
      rcases h3 with ⟨m, h4, rfl, rfl⟩ | ⟨h4, rfl, rfl, rfl⟩
      · rcases k3 with ⟨m', k4, rfl, rfl⟩ | ⟨k4, _⟩
        · rw [e, k4] at h4
          cases h4
          exact ⟨rfl, rfl, rfl⟩
        · rw [e, k4] at h4; cases h4
      · rcases k3 with ⟨m', k4, _⟩ | ⟨k4, rfl, rfl, rfl⟩
        · rw [e, k4] at h4; cases h4
        · exact ⟨rfl, rfl, rfl⟩
    · exact absurd h1 k1
  · rcases k with ⟨k1, _⟩ | ⟨_, rfl, rfl, rfl⟩
    · exact absurd k1 h1
    · exact ⟨rfl, rfl, rfl⟩

set_option maxRecDepth 100000 in
set_option maxHeartbeats 1000000 in
theorem implGetKey_any (n c : Nat) (a : Option Addr) (N : Nat → Lb) (key : ByteArray) (w : World) (h : RowIs w w.heap.size (.slice a n c) n N) (hs : SmallR n N) :
    Calls Try.prog 23 #[.agg #[.slice a n c], .string key] w fun e w' => ∃ (v : ByteArray) (s : Int) (q : Bool), e = .returned (.tuple #[.string v, .int .i64 s, .bool q]) ∧ GkTold (lbs n N) key v s q ∧ Below w.heap.size w w' := by
  have HR : Hid (RowIs w w.heap.size (.slice a n c) (lbs n N).length (lbAt (lbs n N))) := h.list
  have HS : Hid ((lbs n N).length ≤ 2 ^ 20 ∧ ∀ x ∈ lbs n N, x.key.size ≤ 2 ^ 20 ∧ x.val.size ≤ 2 ^ 20) := hs.list
  clear h hs
  go_enter Try.func23, Try.ntmps23
  go_wp2_with fail
  have hal : ∀ o, Below w.heap.size w (w.alloc o) := fun o => (Below.refl _ _).alloc (Nat.le_refl _) o
  refine (treeOf_any (lbs n N) _ _ (HR.out.below (hal _) (by simp)) HS.out.1 HS.out.2).mono ?_
  rintro e w1 ⟨⟨hg, T, rfl, hT, _, hTo, hTl, _⟩ | ⟨hg, rfl⟩, hb0⟩
  · have HB : Hid (Below w.heap.size w w1) := (hal _).trans (hb0.mono (by simp))
    have HT : Hid (BrAt w1 T ∧ T.sz ≤ 60) := ⟨hT, by rw [← T.limbs_len 0, hTl]; exact hg.1⟩
    have HG : Hid (GoodL (lbs n N) ∧ T.ok ∧ T.limbs 0 = lbs n N) := ⟨hg, hTo, hTl⟩
    clear hg hb0 hT hTo hTl hal
    go_wp2_with fail
    refine (find_any key T _ HT.out.1 HT.out.2).mono ?_
    rintro e w2 ⟨hf, hb2⟩
    have HB2 : Hid (Below w.heap.size w w2) := HB.out.trans (hb2.mono HB.out.size)
    clear hb2
    unfold FindIs at hf
    cases ho : T.fnd key 0 with
    | none =>
      rw [ho] at hf
      obtain ⟨s, hs, rfl⟩ := hf
      have HD : Hid (GkTold (lbs n N) key ⟨#[]⟩ 0 false) := .inl ⟨HG.out.1, T, HG.out.2.1, HG.out.2.2, .inr ⟨ho, rfl, rfl, rfl⟩⟩
      clear ho
      go_wp2_with fail
      exact bodyPost_ret (v := .tuple #[.string ⟨#[]⟩, .int .i64 0, .bool false]) (by simp [results, Try.results23, go_sem]) rfl ⟨_, _, _, rfl, HD.out, HB2.out⟩
    | some p =>
      obtain ⟨v, m⟩ := p
      rw [ho] at hf
      obtain ⟨b, rfl, hc, hm⟩ := hf
      have HD : Hid (GkTold (lbs n N) key v (m : Int) true) := .inl ⟨HG.out.1, T, HG.out.2.1, HG.out.2.2, .inl ⟨m, ho, rfl, rfl⟩⟩
      clear ho
      go_wp2_with fail
      exact bodyPost_ret (v := .tuple #[.string v, .int .i64 (m : Int), .bool true]) (by simp [results, Try.results23, go_sem]) rfl ⟨_, _, _, rfl, HD.out, HB2.out⟩
  · have HB : Hid (Below w.heap.size w w1) := (hal _).trans (hb0.mono (by simp))
    have HD : Hid (GkTold (lbs n N) key ⟨#[]⟩ 0 false) := .inr ⟨hg, rfl, rfl, rfl⟩
    clear hg hb0 hal
    go_wp2_with fail
    exact bodyPost_ret (v := .tuple #[.string ⟨#[]⟩, .int .i64 0, .bool false]) (by simp [results, Try.results23, go_sem]) rfl ⟨_, _, _, rfl, HD.out, HB.out⟩
end Go.Proofs.Ytmiofccmimhabaa
