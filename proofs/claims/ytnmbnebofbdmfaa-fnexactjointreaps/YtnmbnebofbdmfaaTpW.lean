/- Trees told by links: a limb put by the program. -/
import Derived.Test.YtnmbnebofbdmfaaTpC
namespace Go.Proofs.Ytnmbnebofbdmfaa
open Go.RowKit
set_option linter.unusedVariables false

theorem cut_nodup (key : ByteArray) (t : Bt) (h : t.bs.Nodup) : (t.cut key).bs.Nodup := by
  obtain ⟨d, hd⟩ := cut_bs key t
  have := hd.nodup_iff.2 h
  rw [List.nodup_append] at this
  exact this.2.1
theorem split_nodup (key : ByteArray) (t : Bt) (h : t.bs.Nodup) : (t.split key).1.bs.Nodup ∧ (t.split key).2.bs.Nodup ∧ ∀ x ∈ (t.split key).1.bs, x ∉ (t.split key).2.bs := by
  have := (split_bs key t).nodup_iff.2 h
  rw [List.nodup_append] at this
  exact ⟨this.1, this.2.1, fun x hx hy => this.2.2 x hx x hy rfl⟩
theorem join_nodup (s t : Bt) (hs : s.bs.Nodup) (ht : t.bs.Nodup) (hd : ∀ x ∈ s.bs, x ∉ t.bs) : (Bt.join s t).bs.Nodup := by
  refine (join_bs s t).nodup_iff.2 ?_
  rw [List.nodup_append]
  exact ⟨hs, ht, fun x hx y hy e => hd x hx (by rw [e]; exact hy)⟩
theorem cut_in (key : ByteArray) (t : Bt) (x : Nat) (hx : x ∈ (t.cut key).bs) : x ∈ t.bs := by
  obtain ⟨d, hd⟩ := cut_bs key t
  exact hd.mem_iff.1 (List.mem_append.2 (.inr hx))
theorem split_in (key : ByteArray) (t : Bt) (x : Nat) : (x ∈ (t.split key).1.bs → x ∈ t.bs) ∧ (x ∈ (t.split key).2.bs → x ∈ t.bs) :=
  ⟨fun hx => (split_bs key t).mem_iff.1 (List.mem_append.2 (.inl hx)), fun hx => (split_bs key t).mem_iff.1 (List.mem_append.2 (.inr hx))⟩
theorem join_in (s t : Bt) (x : Nat) (hx : x ∈ (Bt.join s t).bs) : x ∈ s.bs ∨ x ∈ t.bs := List.mem_append.1 ((join_bs s t).mem_iff.1 hx)
theorem one_bs (b : Nat) (k v : ByteArray) (x : Nat) : x ∈ (Bt.node b k v .nil .nil).bs ↔ x = b := by simp [Bt.bs]
theorem put_nodup (t : Bt) (b : Nat) (k v : ByteArray) (h : t.bs.Nodup) (hb : b ∉ t.bs) : (t.put b k v).bs.Nodup := by
  have h1 := split_nodup k (t.cut k) (cut_nodup k t h)
  unfold Bt.put
  refine join_nodup _ _ (join_nodup _ _ h1.1 (by simp [Bt.bs]) (fun x hx hy => ?_)) h1.2.1 (fun x hx hy => ?_)
  · rw [one_bs] at hy
    exact hb (by rw [← hy]; exact cut_in k t x ((split_in k _ x).1 hx))
  · rcases join_in _ _ x hx with hx | hx
    · exact h1.2.2 x hx hy
    · rw [one_bs] at hx
      exact hb (by rw [← hx]; exact cut_in k t x ((split_in k _ x).2 hy))

set_option maxRecDepth 100000 in
set_option maxHeartbeats 4000000 in
theorem withBranch_any (t : Bt) (b : Nat) (k v : ByteArray) (w : World) (h : BrAt w t) (hn : t.bs.Nodup) (hb : BrAt w (.node b k v .nil .nil)) (hbt : b ∉ t.bs) :
    Calls Try.prog 37 #[.pointer t.pa, .pointer (some ⟨b, 0, none⟩)] w fun e w' => e = .returned (.pointer (t.put b k v).pa) ∧ BrAt w' (t.put b k v) ∧ Only (fun x => x ∈ t.bs ∨ x = b) w w' := by
  have HT : Hid (BrAt w t ∧ t.bs.Nodup ∧ BrAt w (.node b k v .nil .nil) ∧ b ∉ t.bs) := ⟨h, hn, hb, hbt⟩
  obtain ⟨⟨a0, a1, a2, a3, a4⟩, f0, f1, f2, f3, f4⟩ := hb.1
  clear h hn hb
  have HQ : Hid (b ∉ t.bs) := hbt
  clear hbt
  go_enter Try.func37, Try.ntmps37
  go_wp2_with fail
  go_region_held3 (fun w' => w'.cell? ⟨b, 0, none⟩ = some (.string k)) (first | exact a0 | exact (ho1.cell HQ.out).trans a0 | exact (ho2.cell (fun h => HQ.out (cut_in k t b h))).trans ((ho1.cell HQ.out).trans a0))
    (first | (go_at_call 43; refine (cut_any k t _ (HT.out.1.drewN 1) HT.out.2.1).mono ?_; rintro e w1 ⟨rfl, h1, ho1⟩) | (go_at_call 42; refine (split_any k (t.cut k) _ h1 (cut_nodup k t HT.out.2.1)).mono ?_; rintro e w2 ⟨rfl, h2, h3, ho2⟩))
  have HO1 : Hid (Only (fun x => x ∈ t.bs) w w2) := ((Only.refl _ w).drew.trans ho1).trans (ho2.mono (fun x hx => cut_in k t x hx))
  have H2 : Hid (BrAt w2 ((t.cut k).split k).1 ∧ BrAt w2 ((t.cut k).split k).2) := ⟨h2, h3⟩
  have HB2 : Hid (BrAt w2 (.node b k v .nil .nil)) := BrAt.only HO1.out _ HT.out.2.2.1 (fun x hx => by rw [one_bs] at hx; rw [hx]; exact HQ.out)
  have HSN : Hid (((t.cut k).split k).1.bs.Nodup ∧ ((t.cut k).split k).2.bs.Nodup ∧ ∀ x ∈ ((t.cut k).split k).1.bs, x ∉ ((t.cut k).split k).2.bs) := split_nodup k (t.cut k) (cut_nodup k t HT.out.2.1)
  clear h1 h2 h3 ho1 ho2 a0 a1 a2 a3 a4 f0 f1 f2 f3 f4
  go_wp2_with fail
  have hx1 : ∀ x ∈ ((t.cut k).split k).1.bs, x ∉ (Bt.node b k v .nil .nil).bs := fun x hx hy => by
    rw [one_bs] at hy
    exact HQ.out (by rw [← hy]; exact cut_in k t x ((split_in k _ x).1 hx))
  refine (join_any ((t.cut k).split k).1 (.node b k v .nil .nil) w2 H2.out.1 HB2.out HSN.out.1 (by simp [Bt.bs]) hx1).mono ?_
  rintro e w3 ⟨rfl, h3, ho3⟩
  have hx2 : ∀ x ∈ ((t.cut k).split k).2.bs, ¬ (x ∈ ((t.cut k).split k).1.bs ∨ x ∈ (Bt.node b k v .nil .nil).bs) := fun x hx h => by
    rcases h with h | h
    · exact HSN.out.2.2 x h hx
    · rw [one_bs] at h
      exact HQ.out (by rw [← h]; exact cut_in k t x ((split_in k _ x).2 hx))
  have H4 : Hid (BrAt w3 ((t.cut k).split k).2) := BrAt.only ho3 _ H2.out.2 hx2
  have H3 : Hid (BrAt w3 (Bt.join ((t.cut k).split k).1 (.node b k v .nil .nil))) := h3
  have HO3 : Hid (Only (fun x => x ∈ t.bs ∨ x = b) w w3) := (HO1.out.mono (fun x hx => .inl hx)).trans (ho3.mono (fun x hx => hx.imp (fun h => cut_in k t x ((split_in k _ x).1 h)) (fun h => by rw [one_bs] at h; exact h)))
  have HN3 : Hid ((Bt.join ((t.cut k).split k).1 (.node b k v .nil .nil)).bs.Nodup ∧ ∀ x ∈ (Bt.join ((t.cut k).split k).1 (.node b k v .nil .nil)).bs, x ∉ ((t.cut k).split k).2.bs) :=
    ⟨join_nodup _ _ HSN.out.1 (by simp [Bt.bs]) hx1, fun x hx hy => hx2 x hy (join_in _ _ x hx)⟩
  clear hx1 hx2 h3 ho3
  go_wp2_with fail
  refine (join_any _ ((t.cut k).split k).2 w3 H3.out H4.out HN3.out.1 HSN.out.2.1 HN3.out.2).mono ?_
  rintro e w4 ⟨rfl, h5, ho5⟩
  have H5 : Hid (BrAt w4 (t.put b k v)) := h5
  have HO5 : Hid (Only (fun x => x ∈ t.bs ∨ x = b) w w4) := HO3.out.trans (ho5.mono (fun x hx => by
    rcases hx with hx | hx
    · rcases join_in _ _ x hx with hx | hx
      · exact .inl (cut_in k t x ((split_in k _ x).1 hx))
      · rw [one_bs] at hx
        exact .inr hx
    · exact .inl (cut_in k t x ((split_in k _ x).2 hx))))
  clear h5 ho5
  go_wp2
  refine bodyPost_ret (v := .pointer (t.put b k v).pa) (by simp [results, Try.results37, go_sem, Bt.put]) rfl ⟨rfl, H5.out, HO5.out⟩
end Go.Proofs.Ytnmbnebofbdmfaa
