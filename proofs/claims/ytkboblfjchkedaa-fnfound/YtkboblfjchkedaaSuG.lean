/- What the law of places draws. No condition but that it fits in memory. -/
import Derived.Test.YtkboblfjchkedaaSuF
namespace Go.Proofs.Ytkboblfjchkedaa
open Go.RowKit
set_option linter.unusedVariables false

def askT : List ByteArray := [⟨#[97]⟩, ⟨#[97, 110, 97]⟩, ⟨#[97, 98]⟩, ⟨#[98, 97, 110]⟩, ⟨#[]⟩, ⟨#[110]⟩, ⟨#[97, 97, 97, 97]⟩, ⟨#[122, 122]⟩]
theorem askT_small : ∀ y ∈ askT, y.size ≤ 4 := by
  intro y hy
  simp only [askT, List.mem_cons, List.not_mem_nil, or_false] at hy
  rcases hy with rfl | rfl | rfl | rfl | rfl | rfl | rfl | rfl <;> decide
/-- A text, some list, and a text. -/
def RDrawFi (w : World) (e : Ending) (w' : World) : Prop := ∃ (s : ByteArray) (a : Option Addr) (n c : Nat) (T : Nat → Prop) (l : List Int) (p : ByteArray), e = .returned (.tuple #[.string s, .slice a n c, .string p]) ∧ s.size ≤ 400 ∧ (kRow kInt).is true w' T [.slice a n c] l ∧ (∀ k, T k → w.heap.size ≤ k) ∧ l.length ≤ 400 ∧ p.size ≤ 4 ∧ Below w.heap.size w w'
set_option maxRecDepth 100000 in
set_option maxHeartbeats 1000000 in
theorem drawFindIn_k (w : World) (x : List Int) (a : Option Addr) (n c : Nat) (h : (kRow kU8).is false w (fun _ => True) [.slice a n c] x) (hn : n ≤ 9223372036854775807) :
    Calls Try.prog 16 #[.slice a n c] w (RDrawFi w) := by
  have H : Hid ((kRow kU8).is false w (fun _ => True) [.slice a n c] x) := h
  clear h
  obtain ⟨W0, hW0⟩ : ∃ W0, W0 = w.alloc (.cells #[.slice a n c, .int .i64 0, .int .u64 0] 50) := ⟨_, rfl⟩
  have HCU : Hid (CurAt W0 w.heap.size (fun k => k < w.heap.size) 0) := by rw [hW0]; exact cur_new H.out hn
  have HW0 : Hid (W0 = w.alloc (.cells #[.slice a n c, .int .i64 0, .int .u64 0] 50)) := hW0
  have z0 : w.heap.size < W0.heap.size := by rw [hW0]; simp
  go_enter Try.func16, Try.ntmps16
  go_wp2_with fail
  rw [← hW0]
  clear hW0
  obtain ⟨g, hg⟩ : ∃ g, g = w.heap.size := ⟨_, rfl⟩
  have HG : Hid (g = w.heap.size) := hg
  rw [← hg] at HCU z0 ⊢
  clear hg
  refine (suffixes_k W0 g (fun k => k < g) 0 HCU.out (by omega) z0 (fun k hk => by omega)).mono ?_
  rintro e w1 ⟨s, la, ln, lc, T, l, rfl, hs, hr, hT, hl, hc, hk⟩
  have HR1 : Hid ((kRow kInt).is true w1 T [.slice la ln lc] l) := hr
  have HT : Hid (∀ k, T k → W0.heap.size ≤ k) := hT
  have HC1 : Hid (CurAt w1 g (fun k => k < g) 140) := hc.mono (by omega)
  have HK1 : Hid (KeptO (fun k => k = g) W0 w1) := hk
  have z1 : g < w1.heap.size := by have := hk.size; omega
  clear hk hc hr hT
  go_wp2_with fail
  refine (of_at w1 g (fun k => k < g) 140 askT 9 HC1.out (by omega) z1 (by decide) (by decide)).mono ?_
  rintro e w2 ⟨p, hp, rfl, hc2, hk2⟩
  have hp4 := askT_small p hp
  have HR2 : Hid ((kRow kInt).is true w2 T [.slice la ln lc] l) := Kd.kept HR1.out hk2 (fun k _ hk e => by have := HT.out k hk; omega)
  have HK2 : Hid (KeptO (fun k => k = g) W0 w2) := HK1.out.trans hk2
  have HB : Hid (Below w.heap.size w w2) := by
    have h := HK2.out
    rw [HG.out, HW0.out] at h
    exact h.belowNew
  clear hc2 hk2 hp
  go_wp2
  refine bodyPost_ret (v := .tuple #[.string s, .slice la ln lc, .string p]) (by simp [results, Try.results16, go_sem]) rfl ?_
  exact ⟨s, la, ln, lc, T, l, p, rfl, hs, HR2.out, fun k hk => by have := HT.out k hk; have := HG.out; omega, hl, hp4, HB.out⟩
end Go.Proofs.Ytkboblfjchkedaa
