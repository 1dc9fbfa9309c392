/- The texts that chapter 12's laws draw, with their endings. No condition but that it fits in memory. -/
import Derived.Test.YtkboblfjchkedaaCuO
import Derived.Test.YtkboblfjchkedaaSxT
import Derived.Deep.DeepCutAuto
namespace Go.Proofs.Ytkboblfjchkedaa
open Go.RowKit
set_option linter.unusedVariables false

/-- All bytes are plain. -/
def Asc (s : ByteArray) : Prop := ∀ x ∈ tx s, x.toNat < 128
theorem asc_add {s t : ByteArray} (h : Asc s) (h' : Asc t) : Asc (s ++ t) := by
  intro x hx
  have : x ∈ tx s ++ tx t := by simpa [tx] using hx
  rcases List.mem_append.1 this with h1 | h1
  · exact h x h1
  · exact h' x h1
theorem asc_cut {s : ByteArray} (h : Asc s) (a b : Nat) : Asc (s.extract a b) := by
  intro x hx
  rw [tx_ext] at hx
  exact h x (List.mem_of_mem_drop (List.mem_of_mem_take hx))
def sufT : List ByteArray := [⟨#[97]⟩, ⟨#[98]⟩, ⟨#[97, 98]⟩, ⟨#[110]⟩, ⟨#[97, 110, 97]⟩, ⟨#[97]⟩]
theorem sufT_small : ∀ y ∈ sufT, y.size ≤ 3 ∧ Asc y := by
  intro y hy
  simp only [sufT, List.mem_cons, List.not_mem_nil, or_false] at hy
  rcases hy with rfl | rfl | rfl | rfl | rfl | rfl <;> refine ⟨by decide, fun x hx => ?_⟩ <;> simp [tx] at hx
  · rw [hx]; decide
  · rw [hx]; decide
  · rcases hx with rfl | rfl <;> decide
  · rw [hx]; decide
  · rcases hx with rfl | rfl | rfl <;> decide
  · rw [hx]; decide
def RSuf (w : World) (g : Nat) (S : Nat → Prop) (m : Int) (e : Ending) (w' : World) : Prop := ∃ s : ByteArray, e = .returned (.string s) ∧ s.size ≤ 400 ∧ Asc s ∧ CurAt w' g S m ∧ KeptO (fun k => k = g) w w'
set_option maxRecDepth 100000 in
set_option maxHeartbeats 4000000 in
theorem suffixText_k (w : World) (g : Nat) (S : Nat → Prop) (m : Int) (h : CurAt w g S m) (hm : m ≤ 2 ^ 40) (hg : g < w.heap.size) :
    Calls Try.prog 29 #[.pointer (some ⟨g, 0, none⟩)] w (RSuf w g S (m + 130)) := by
  have H : Hid (CurAt w g S m) := h
  clear h
  go_enter Try.func29, Try.ntmps29
  go_wp2_with fail
  refine (pick_k w g S m 20 H.out (by omega) (by omega) (by omega)).mono ?_
  rintro e w1 ⟨n0, rfl, ⟨n00, n01⟩, hc, hk⟩
  obtain ⟨n1, rfl⟩ : ∃ n : Nat, n0 = n := ⟨n0.toNat, by omega⟩
  have HC1 : Hid (CurAt w1 g S (m + 1)) := hc
  have HK1 : Hid (KeptO (fun k => k = g) w w1) := hk
  clear hc hk
  go_wp2_with fail
  refine (one_k w1 g S _ 20 HC1.out (by omega) (by omega) (by omega)).mono ?_
  rintro e w2 ⟨q, rfl, hc2, hk2⟩
  have HC2 : Hid (CurAt w2 g S (m + 2)) := hc2.mono (by omega)
  have HK2 : Hid (KeptO (fun q => q = g) w w2) := HK1.out.trans hk2
  have z2 : w.heap.size ≤ w2.heap.size := HK2.out.size
  clear hc2 hk2
  cases q
  · obtain ⟨n, hnn⟩ : ∃ n : Nat, n = n1 := ⟨_, rfl⟩
    have hn : n ≤ 115 := by omega
    rw [← hnn]
    clear hnn
    go_wp2_with fail
    go_loopw [3, 4] (fun sv nv wr => ∃ (k : Nat) (s : ByteArray), k ≤ n ∧ nv = .int .i64 k ∧ sv = .string s ∧ s.size ≤ 3 * (n - k) ∧ Hid (Asc s) ∧ Hid (CurAt wr g S (m + 2 + (n - k))) ∧ Hid (KeptO (fun q => q = g) w wr)) (fun _ nv _ => (intOf nv).toNat)
    case atStart => exact ⟨n, ⟨#[]⟩, Nat.le_refl _, rfl, rfl, Nat.zero_le _, (fun x hx => by simp [tx] at hx), HC2.out.mono (by omega), HK2⟩
    case round =>
      obtain ⟨k, s, hk, rfl, rfl, hsz, HA, HC, HK⟩ := hrel
      have zr : w.heap.size ≤ wr.heap.size := HK.out.size
      by_cases h0 : k = 0
      · obtain rfl : k = 0 := h0
        have HAC : Hid (Asc (s.extract 0 120)) := asc_cut HA.out 0 120
        have hs345 : s.size ≤ 345 := by omega
        by_cases hlong : 120 < s.size
        · have l1 : (120 : Int) < (s.size : Int) := by omega
          have l2 : decide ((120 : Int) < (s.size : Int)) = true := decide_eq_true l1
          have l3 : (120 : Int) ≤ (s.size : Int) := by omega
          go_wp2_with fail
          refine (one_k wr g S _ 4 HC.out (by omega) (by omega) (by omega)).mono ?_
          rintro e w3 ⟨b, rfl, hc3, hk3⟩
          have HC3 : Hid (CurAt w3 g S (m + 130)) := hc3.mono (by omega)
          have HK3 : Hid (KeptO (fun q => q = g) w w3) := HK.out.trans hk3
          clear hc3 hk3
          cases b
          · have hcz : (s.extract 0 120).size ≤ 400 := by rw [ByteArray.size_extract]; omega
            go_wp2
            go_ret
            exact ⟨_, rfl, hcz, HAC.out, HC3.out, HK3.out⟩
          · go_wp2
            go_ret
            exact ⟨_, rfl, by omega, HA.out, HC3.out, HK3.out⟩
        · have l1 : ¬ (120 : Int) < (s.size : Int) := by omega
          have l2 : decide ((120 : Int) < (s.size : Int)) = false := decide_eq_false l1
          have HC3 : Hid (CurAt wr g S (m + 130)) := HC.out.mono (by omega)
          go_wp2
          go_ret
          exact ⟨_, rfl, by omega, HA.out, HC3.out, HK.out⟩
      · obtain ⟨j, rfl⟩ : ∃ j, k = j + 1 := ⟨k - 1, by omega⟩
        have hof := of_at wr g S _ sufT 9 HC.out (by omega) (by omega) (by decide) (by decide)
        have j0 : (0 : Int) < (j : Int) + 1 := by omega
        go_wp2_with fail
        refine hof.mono ?_
        rintro e w3 ⟨y, hy, rfl, hc3, hk3⟩
        have hyz := (sufT_small y hy).1
        have HA2 : Hid (Asc (s ++ y)) := asc_add HA.out (sufT_small y hy).2
        have HC3 : Hid (CurAt w3 g S (m + 2 + (n - (j : Nat)))) := hc3.mono (by omega)
        have HK3 : Hid (KeptO (fun q => q = g) w w3) := HK.out.trans hk3
        have hsz2 : (s ++ y).size ≤ 3 * (n - j) := by rw [ByteArray.size_append]; omega
        have hs0 : s.size ≤ 345 := by omega
        clear hc3 hk3 hy hof
        go_wp2
        go_roundw
        case rel => exact ⟨j, s ++ y, by omega, by go_num, rfl, hsz2, HA2, HC3, HK3⟩
        case measure => simp [intOf]; try omega
  · obtain ⟨n, hnn⟩ : ∃ n : Nat, n = 115 := ⟨_, rfl⟩
    have hn : n ≤ 115 := by omega
    have HN : Hid (n = 115) := hnn
    clear hnn
    go_wp2_with fail
    go_loopw [3, 4] (fun sv nv wr => ∃ (k : Nat) (s : ByteArray), k ≤ n ∧ nv = .int .i64 k ∧ sv = .string s ∧ s.size ≤ 3 * (n - k) ∧ Hid (Asc s) ∧ Hid (CurAt wr g S (m + 2 + (n - k))) ∧ Hid (KeptO (fun q => q = g) w wr)) (fun _ nv _ => (intOf nv).toNat)
    case atStart => exact ⟨n, ⟨#[]⟩, Nat.le_refl _, by rw [HN.out]; rfl, rfl, Nat.zero_le _, (fun x hx => by simp [tx] at hx), HC2.out.mono (by omega), HK2⟩
    case round =>
      obtain ⟨k, s, hk, rfl, rfl, hsz, HA, HC, HK⟩ := hrel
      have zr : w.heap.size ≤ wr.heap.size := HK.out.size
      by_cases h0 : k = 0
      · obtain rfl : k = 0 := h0
        have HAC : Hid (Asc (s.extract 0 120)) := asc_cut HA.out 0 120
        have hs345 : s.size ≤ 345 := by omega
        by_cases hlong : 120 < s.size
        · have l1 : (120 : Int) < (s.size : Int) := by omega
          have l2 : decide ((120 : Int) < (s.size : Int)) = true := decide_eq_true l1
          have l3 : (120 : Int) ≤ (s.size : Int) := by omega
          go_wp2_with fail
          refine (one_k wr g S _ 4 HC.out (by omega) (by omega) (by omega)).mono ?_
          rintro e w3 ⟨b, rfl, hc3, hk3⟩
          have HC3 : Hid (CurAt w3 g S (m + 130)) := hc3.mono (by omega)
          have HK3 : Hid (KeptO (fun q => q = g) w w3) := HK.out.trans hk3
          clear hc3 hk3
          cases b
          · have hcz : (s.extract 0 120).size ≤ 400 := by rw [ByteArray.size_extract]; omega
            go_wp2
            go_ret
            exact ⟨_, rfl, hcz, HAC.out, HC3.out, HK3.out⟩
          · go_wp2
            go_ret
            exact ⟨_, rfl, by omega, HA.out, HC3.out, HK3.out⟩
        · have l1 : ¬ (120 : Int) < (s.size : Int) := by omega
          have l2 : decide ((120 : Int) < (s.size : Int)) = false := decide_eq_false l1
          have HC3 : Hid (CurAt wr g S (m + 130)) := HC.out.mono (by omega)
          go_wp2
          go_ret
          exact ⟨_, rfl, by omega, HA.out, HC3.out, HK.out⟩
      · obtain ⟨j, rfl⟩ : ∃ j, k = j + 1 := ⟨k - 1, by omega⟩
        have hof := of_at wr g S _ sufT 9 HC.out (by omega) (by omega) (by decide) (by decide)
        have j0 : (0 : Int) < (j : Int) + 1 := by omega
        go_wp2_with fail
        refine hof.mono ?_
        rintro e w3 ⟨y, hy, rfl, hc3, hk3⟩
        have hyz := (sufT_small y hy).1
        have HA2 : Hid (Asc (s ++ y)) := asc_add HA.out (sufT_small y hy).2
        have HC3 : Hid (CurAt w3 g S (m + 2 + (n - (j : Nat)))) := hc3.mono (by omega)
        have HK3 : Hid (KeptO (fun q => q = g) w w3) := HK.out.trans hk3
        have hsz2 : (s ++ y).size ≤ 3 * (n - j) := by rw [ByteArray.size_append]; omega
        have hs0 : s.size ≤ 345 := by omega
        clear hc3 hk3 hy hof
        go_wp2
        go_roundw
        case rel => exact ⟨j, s ++ y, by omega, by go_num, rfl, hsz2, HA2, HC3, HK3⟩
        case measure => simp [intOf]; try omega
end Go.Proofs.Ytkboblfjchkedaa
