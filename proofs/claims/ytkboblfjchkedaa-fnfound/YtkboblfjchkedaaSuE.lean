/- What chapter 12's laws draw: a text, its endings (two of them perhaps turned about), a text that is looked for; a number of bytes. No condition but that it fits in memory. -/
import Derived.Test.YtkboblfjchkedaaSuD
import Derived.Deep.RegionLaw
import Derived.Deep.AppendLies
import Derived.Maps.AppendAt
namespace Go.Proofs.Ytkboblfjchkedaa
open Go.RowKit
set_option linter.unusedVariables false

/-- A text of bytes that are plain. -/
def RDrawSx (w : World) (e : Ending) (w' : World) : Prop := ∃ s : ByteArray, e = .returned (.string s) ∧ s.size ≤ 400 ∧ Asc s ∧ Below w.heap.size w w'
set_option maxRecDepth 100000 in
theorem drawSuffixesOf_k (w : World) (x : List Int) (a : Option Addr) (n c : Nat) (h : (kRow kU8).is false w (fun _ => True) [.slice a n c] x) (hn : n ≤ 9223372036854775807) :
    Calls Try.prog 8 #[.slice a n c] w (RDrawSx w) := by
  have H : Hid ((kRow kU8).is false w (fun _ => True) [.slice a n c] x) := h
  clear h
  go_enter Try.func8, Try.ntmps8
  go_wp2_with fail
  refine (suffixText_k _ w.heap.size (fun k => k < w.heap.size) 0 (cur_new H.out hn) (by omega) (by simp)).mono ?_
  rintro e w1 ⟨s, rfl, hs, ha, hc, hk⟩
  have HA : Hid (Asc s) := ha
  have HB : Hid (Below w.heap.size w w1) := hk.belowNew
  clear hk hc ha
  go_wp2
  go_ret
  exact ⟨s, rfl, hs, HA.out, HB.out⟩
set_option maxRecDepth 100000 in
theorem drawDistinctIn_k (w : World) (x : List Int) (a : Option Addr) (n c : Nat) (h : (kRow kU8).is false w (fun _ => True) [.slice a n c] x) (hn : n ≤ 9223372036854775807) :
    Calls Try.prog 24 #[.slice a n c] w (RDrawSx w) := by
  have H : Hid ((kRow kU8).is false w (fun _ => True) [.slice a n c] x) := h
  clear h
  go_enter Try.func24, Try.ntmps24
  go_wp2_with fail
  refine (drawSuffixesOf_k w x a n c H.out hn).mono ?_
  rintro e w1 ⟨s, rfl, hs, ha, hb⟩
  have HA : Hid (Asc s) := ha
  have HB : Hid (Below w.heap.size w w1) := hb
  clear hb ha
  go_wp2
  go_ret
  exact ⟨s, rfl, hs, HA.out, HB.out⟩
/-- A text, a number of bytes, and whether twice as many. -/
def RDrawRk (w : World) (e : Ending) (w' : World) : Prop := ∃ (s : ByteArray) (k d : Int), e = .returned (.tuple #[.string s, .int .i64 k, .int .i64 d]) ∧ s.size ≤ 400 ∧ (0 ≤ k ∧ k ≤ 121) ∧ (0 ≤ d ∧ d ≤ 1) ∧ Below w.heap.size w w'
set_option maxRecDepth 100000 in
theorem drawRankOf_k (w : World) (x : List Int) (a : Option Addr) (n c : Nat) (h : (kRow kU8).is false w (fun _ => True) [.slice a n c] x) (hn : n ≤ 9223372036854775807) :
    Calls Try.prog 19 #[.slice a n c] w (RDrawRk w) := by
  have H : Hid ((kRow kU8).is false w (fun _ => True) [.slice a n c] x) := h
  clear h
  obtain ⟨W0, hW0⟩ : ∃ W0, W0 = w.alloc (.cells #[.slice a n c, .int .i64 0, .int .u64 0] 50) := ⟨_, rfl⟩
  have HCU : Hid (CurAt W0 w.heap.size (fun k => k < w.heap.size) 0) := by rw [hW0]; exact cur_new H.out hn
  have HW0 : Hid (W0 = w.alloc (.cells #[.slice a n c, .int .i64 0, .int .u64 0] 50)) := hW0
  have z0 : w.heap.size < W0.heap.size := by rw [hW0]; simp
  go_enter Try.func19, Try.ntmps19
  go_wp2_with fail
  rw [← hW0]
  clear hW0
  obtain ⟨g, hg⟩ : ∃ g, g = w.heap.size := ⟨_, rfl⟩
  have HG : Hid (g = w.heap.size) := hg
  rw [← hg] at HCU z0 ⊢
  clear hg
  refine (suffixText_k W0 g (fun k => k < g) 0 HCU.out (by omega) z0).mono ?_
  rintro e w1 ⟨s, rfl, hs, ha, hc, hk⟩
  have HC1 : Hid (CurAt w1 g (fun k => k < g) 130) := hc.mono (by omega)
  have HK1 : Hid (KeptO (fun k => k = g) W0 w1) := hk
  have z1 : g < w1.heap.size := by have := hk.size; omega
  clear hk hc ha
  go_wp2_with fail
  refine (among_at w1 g (fun k => k < g) 130 [1, 1, 2, 4, 0, 120, 121] 3 HC1.out (by omega) z1 (by decide) (by decide)).mono ?_
  rintro e w2 ⟨k, hk0, rfl, hc2, hk2⟩
  have hk3 : 0 ≤ k ∧ k ≤ 121 := by simp only [List.mem_cons, List.not_mem_nil, or_false] at hk0; omega
  have HC2 : Hid (CurAt w2 g (fun k => k < g) 131) := hc2.mono (by omega)
  have HK2 : Hid (KeptO (fun k => k = g) W0 w2) := HK1.out.trans hk2
  clear hk2 hc2 hk0
  go_wp2_with fail
  refine (pick_k w2 g (fun k => k < g) 131 2 HC2.out (by omega) (by omega) (by omega)).mono ?_
  rintro e w3 ⟨d, rfl, ⟨d0, d1⟩, hc3, hk3'⟩
  have HK3 : Hid (KeptO (fun k => k = g) W0 w3) := HK2.out.trans hk3'
  have HB : Hid (Below w.heap.size w w3) := by
    have h := HK3.out
    rw [HG.out, HW0.out] at h
    exact h.belowNew
  clear hc3 hk3'
  go_wp2
  refine bodyPost_ret (v := .tuple #[.string s, .int .i64 k, .int .i64 d]) (by simp [results, Try.results19, go_sem]) rfl ?_
  exact ⟨s, k, d, rfl, hs, hk3, ⟨d0, by omega⟩, HB.out⟩
end Go.Proofs.Ytkboblfjchkedaa
