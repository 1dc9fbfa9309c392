/- Trees told by links: a key cut, a limb put, by the program. -/
import Derived.Test.YtnmbnebofbdmfaaTpT
import Derived.Deep.RegionHeld3
namespace Go.Proofs.Ytnmbnebofbdmfaa
open Go.RowKit
set_option linter.unusedVariables false

/-- How two texts compare. -/
def kCmp (a b : ByteArray) : Int := if kLt a b then -1 else if kLt b a then 1 else 0
theorem gt_is (a b : ByteArray) : (!Op.bytesLess a.toList b.toList && !(a.toList == b.toList)) = Op.bytesLess b.toList a.toList := by
  rw [tl_total b.toList a.toList]
  simp
theorem gt_is' (a b : ByteArray) : (!(Op.bytesLess a.toList b.toList || a.toList == b.toList)) = Op.bytesLess b.toList a.toList := by
  rw [tl_total b.toList a.toList]

set_option maxHeartbeats 400000 in
theorem isNaN_any (a : ByteArray) (w : World) : Calls Try.prog 45 #[.string a] w fun e w' => e = .returned (.bool false) ∧ w' = w := by
  go_enter Try.func45, Try.ntmps45
  go_wp2
  go_ret
  exact ⟨rfl, rfl⟩

set_option maxHeartbeats 1000000 in
theorem cmpStr_any (a b : ByteArray) (w : World) : Calls Try.prog 44 #[.string a, .string b] w fun e w' => e = .returned (.int .i64 (kCmp a b)) ∧ w' = w := by
  have hgt := gt_is
  go_enter Try.func44, Try.ntmps44
  go_wp2_with fail
  refine (isNaN_any _ _).mono ?_
  rintro e w1 ⟨rfl, rfl⟩
  go_wp2_with fail
  refine (isNaN_any _ _).mono ?_
  rintro e w1 ⟨rfl, rfl⟩
  cases h1 : Op.bytesLess a.toList b.toList with
  | true =>
    have HK : Hid (kCmp a b = -1) := by show _ = _; unfold kCmp; rw [if_pos (show kLt a b from h1)]
    go_wp2
    go_ret
    exact ⟨by rw [HK.out]; rfl, rfl⟩
  | false =>
    cases h2 : Op.bytesLess b.toList a.toList with
    | true =>
      have HK : Hid (kCmp a b = 1) := by show _ = _; unfold kCmp; rw [if_neg (by unfold kLt; rw [h1]; simp), if_pos (show kLt b a from h2)]
      have hgt' := hgt a b
      rw [h1, h2] at hgt'
      have he : (a.toList == b.toList) = false := by simpa using hgt'
      clear hgt hgt'
      go_wp2
      go_ret
      exact ⟨by rw [HK.out]; rfl, rfl⟩
    | false =>
      have HK : Hid (kCmp a b = 0) := by show _ = _; unfold kCmp; rw [if_neg (by unfold kLt; rw [h1]; simp), if_neg (by unfold kLt; rw [h2]; simp)]
      have hgt' := hgt a b
      rw [h1, h2] at hgt'
      have he : (a.toList == b.toList) = true := by simpa using hgt'
      clear hgt hgt'
      obtain rfl : a = b := toL_inj (eq_of_beq he)
      go_wp2
      go_ret
      exact ⟨by rw [HK.out]; rfl, rfl⟩

/-- What withoutKey answers. -/
def CutSaid (key : ByteArray) (t : Bt) : Prop := ∀ (w : World), BrAt w t → t.bs.Nodup →
    Calls Try.prog 43 #[.pointer t.pa, .string key] w fun e w' => e = .returned (.pointer (t.cut key).pa) ∧ BrAt w' (t.cut key) ∧ Only (fun b => b ∈ t.bs) w w'

set_option maxRecDepth 100000 in
set_option maxHeartbeats 2000000 in
theorem cut_node (key : ByteArray) (b : Nat) (k v : ByteArray) (l r : Bt) (ihl : CutSaid key l) (ihr : CutSaid key r) : CutSaid key (.node b k v l r) := by
  intro w h hn
  have HD : Hid (b ∉ l.bs ∧ b ∉ r.bs ∧ l.bs.Nodup ∧ r.bs.Nodup ∧ ∀ x ∈ l.bs, x ∉ r.bs) := nodup_node hn
  have HS : Hid (BrAt w (.node b k v l r)) := h
  obtain ⟨⟨a0, a1, a2, a3, a4⟩, f0, f1, f2, f3, f4⟩ := h.1
  clear h hn
  have hci : ∀ (key : ByteArray) (t : Bt) x, x ∈ (t.cut key).bs → x ∈ t.bs := fun key t x hx => by
    obtain ⟨d, hd⟩ := cut_bs key t
    exact hd.mem_iff.1 (List.mem_append.2 (.inr hx))
  have HCI : Hid (∀ (key : ByteArray) (t : Bt) x, x ∈ (t.cut key).bs → x ∈ t.bs) := hci
  clear hci
  show Calls _ _ #[.pointer (some ⟨b, 0, none⟩), .string key] w _
  go_enter Try.func43, Try.ntmps43
  go_wp2_with fail
  refine (cmpStr_any key k w).mono ?_
  rintro e w1 ⟨rfl, rfl⟩
  by_cases h1 : kLt key k
  · have hc : kCmp key k = -1 := by unfold kCmp; rw [if_pos h1]
    have HC : Hid ((Bt.node b k v l r).cut key = .node b k v (l.cut key) r) := by show _ = _; rw [Bt.cut, if_pos h1]
    rw [hc]
    go_wp2_with fail
    refine (ihl _ HS.out.2.1 HD.out.2.2.1).mono ?_
    rintro e w2 ⟨rfl, h2, ho⟩
    have hF1 := HS.out.1.only ho HD.out.1
    have HF1 : Hid (F5 w2 b (.string k) (.string v) (.int .i64 (wt k)) (.pointer l.pa) (.pointer r.pa)) := hF1
    have HO : Hid (Only (fun x => x ∈ l.bs) w1 w2) := ho
    have H1 : Hid (BrAt w2 (l.cut key)) := h2
    obtain ⟨⟨a0', a1', a2', a3', a4'⟩, f0', f1', f2', f3', f4'⟩ := hF1
    clear h2 ho a0 a1 a2 a3 a4 f0 f1 f2 f3 f4
    go_wp2_with fail
    rw [HC.out]
    refine bodyPost_ret (v := .pointer (some ⟨b, 0, none⟩)) (by simp [results, Try.results43, go_sem]) rfl ⟨rfl, ?_, ?_⟩
    · exact br_left HF1.out (BrAt.only HO.out r HS.out.2.2 (fun x hx hl => HD.out.2.2.2.2 x hl hx)) H1.out (fun hx => HD.out.1 (HCI.out _ _ b hx)) HD.out.2.1
    · exact only_set HO.out (fun x hx => by simp [Bt.bs, hx]) (by simp [Bt.bs]) _ _
  · by_cases h2 : kLt k key
    · have hc : kCmp key k = 1 := by unfold kCmp; rw [if_neg h1, if_pos h2]
      have HC : Hid ((Bt.node b k v l r).cut key = .node b k v l (r.cut key)) := by show _ = _; rw [Bt.cut, if_neg h1, if_pos h2]
      rw [hc]
      go_wp2_with fail
      refine (ihr _ HS.out.2.2 HD.out.2.2.2.1).mono ?_
      rintro e w2 ⟨rfl, h2, ho⟩
      have hF1 := HS.out.1.only ho HD.out.2.1
      have HF1 : Hid (F5 w2 b (.string k) (.string v) (.int .i64 (wt k)) (.pointer l.pa) (.pointer r.pa)) := hF1
      have HO : Hid (Only (fun x => x ∈ r.bs) w1 w2) := ho
      have H1 : Hid (BrAt w2 (r.cut key)) := h2
      obtain ⟨⟨a0', a1', a2', a3', a4'⟩, f0', f1', f2', f3', f4'⟩ := hF1
      clear h2 ho a0 a1 a2 a3 a4 f0 f1 f2 f3 f4
      go_wp2_with fail
      rw [HC.out]
      refine bodyPost_ret (v := .pointer (some ⟨b, 0, none⟩)) (by simp [results, Try.results43, go_sem]) rfl ⟨rfl, ?_, ?_⟩
      · exact br_right HF1.out (BrAt.only HO.out l HS.out.2.1 (fun x hx => HD.out.2.2.2.2 x hx)) H1.out HD.out.1 (fun hx => HD.out.2.1 (HCI.out _ _ b hx))
      · exact only_set HO.out (fun x hx => by simp [Bt.bs, hx]) (by simp [Bt.bs]) _ _
    · have hc : kCmp key k = 0 := by unfold kCmp; rw [if_neg h1, if_neg h2]
      have HC : Hid ((Bt.node b k v l r).cut key = Bt.join l r) := by show _ = _; rw [Bt.cut, if_neg h1, if_neg h2]
      rw [hc]
      have hb : ¬ (b ∈ l.bs ∨ b ∈ r.bs) := fun h => h.elim HD.out.1 HD.out.2.1
      have HB : Hid (¬ (b ∈ l.bs ∨ b ∈ r.bs)) := hb
      clear hb
      go_wp2_with fail
      go_region_held3 (fun w' => w'.cell? ⟨b, 3, none⟩ = some (.pointer l.pa) ∧ w'.cell? ⟨b, 4, none⟩ = some (.pointer r.pa)) (first | exact ⟨a3, a4⟩ | exact ⟨(ho2.cell HB.out).trans a3, (ho2.cell HB.out).trans a4⟩)
        (first | (go_at_call 18; refine (join_any l r _ (HS.out.2.1.drewN 1) (HS.out.2.2.drewN 1) HD.out.2.2.1 HD.out.2.2.2.1 HD.out.2.2.2.2).mono ?_; rintro e w2 ⟨rfl, h2, ho2⟩))
      have H2 : Hid (BrAt w2 (Bt.join l r)) := h2
      have HO : Hid (Only (fun x => x ∈ l.bs ∨ x ∈ r.bs) w1 w2) := (Only.refl _ w1).drew.trans ho2
      clear h2 ho2
      go_wp2_with fail
      rw [HC.out]
      refine bodyPost_ret (v := .pointer (Bt.join l r).pa) (by simp [results, Try.results43, go_sem]) rfl ⟨rfl, H2.out, HO.out.mono (fun x hx => by simp [Bt.bs]; exact .inr hx)⟩

set_option maxHeartbeats 400000 in
theorem cut_any (key : ByteArray) (t : Bt) : CutSaid key t := by
  induction t with
  | nil =>
    intro w _ _
    show Calls _ _ #[.pointer none, .string key] w _
    go_enter Try.func43, Try.ntmps43
    go_wp2
    exact bodyPost_ret (v := .pointer none) (by simp [results, Try.results43, go_sem]) rfl ⟨rfl, trivial, Only.refl _ _⟩
  | node b k v l r ihl ihr => exact cut_node key b k v l r ihl ihr
end Go.Proofs.Ytnmbnebofbdmfaa
