/- A word's postings: the specification's. No condition but that they fit in memory. -/
import Derived.Test.YtdaomklgcdfllaaLoL
import Derived.Test.YtdaomklgcdfllaaWgS
namespace Go.Proofs.Ytdaomklgcdfllaa
open Go.RowKit
set_option linter.unusedVariables false

theorem findL_drop {s : ByteArray} {es : List DEntry} {k : Nat} {x : ByteArray} {l : List DPosting} (h : es[k]? = some (x, l)) : findL s (es.drop k) = if x = s then l else findL s (es.drop (k + 1)) := by
  have hk := (List.getElem?_eq_some_iff.1 h)
  rw [List.drop_eq_getElem_cons hk.1, hk.2, findL]

theorem ent_full (t : Int) : ∀ (es : List DEntry) (last : ByteArray), entOk t last es = true → ∀ (i : Nat) (x : ByteArray) (l : List DPosting), es[i]? = some (x, l) → l ≠ []
  | [], last, _, i, x, l, h => by simp at h
  | (y, m) :: r, last, hk, 0, x, l, h => by
    rw [entOk] at hk
    simp only [Bool.and_eq_true] at hk
    simp only [List.getElem?_cons_zero, Option.some.injEq, Prod.mk.injEq] at h
    rw [← h.2]
    intro e
    have := hk.1.1.2
    rw [e] at this
    simp at this
  | (y, m) :: r, last, hk, i + 1, x, l, h => by
    rw [entOk] at hk
    simp only [Bool.and_eq_true] at hk
    exact ent_full t r y hk.2 i x l (by simpa using h)
def Full (es : List DEntry) : Prop := ∀ (i : Nat) (x : ByteArray) (l : List DPosting), es[i]? = some (x, l) → l ≠ []
theorem good_full {t : Int} {es : List DEntry} (h : fGoodWords (t, es) = true) : Full es := by
  unfold fGoodWords at h
  simp only [Bool.and_eq_true] at h
  exact ent_full t es _ h.2
theorem row_some {α : Type} {K : Kd α} {o : Bool} {w : World} {S : Nat → Prop} {a : Option Addr} {n c : Nat} {l : List α} (h : (kRow K).is o w S [.slice a n c] l) (hl : l ≠ []) : ∃ ad, a = some ad := by
  cases l with
  | nil => exact absurd rfl hl
  | cons x t =>
    obtain ⟨b, off, _, _, e, _⟩ := row_at h (i := 0) rfl
    exact ⟨_, e⟩

set_option maxRecDepth 100000 in
set_option maxHeartbeats 4000000 in
theorem l10Postings_k (tx : Int) (es : List DEntry) (s : ByteArray) (a : Option Addr) (n c : Nat) (S : Nat → Prop) (w : World) (h : (kRow kEntry).is false w S [.slice a n c] es) (hz : (kRow kEntry).sz es ≤ 2 ^ 20) (hfu : Full es) :
    Calls Try.prog 103 #[.agg #[.int .i64 tx, .slice a n c], .string s] w (RPosts (findL s es) w) := by
  have HRW : Hid ((kRow kEntry).is false w S [.slice a n c] es) := h
  have hn : n = es.length := row_len h
  have HN : Hid (n = es.length) := hn
  have HZ : Hid ((kRow kEntry).sz es ≤ 2 ^ 20) := hz
  have hn20 : n ≤ 2 ^ 20 := by have h3 : (kRow kEntry).sz es = es.length + sums kEntry.sz es := rfl; omega
  have HFU : Hid (Full es) := hfu
  obtain ⟨G, hG⟩ : ∃ G, G = findL s es := ⟨_, rfl⟩
  have HG : Hid (G = findL s es) := hG
  rw [← hG]
  clear h hz hn hG hfu
  go_enter Try.func103, Try.ntmps103
  go_wp2_with fail
  obtain ⟨W0, hW0⟩ : ∃ W0, W0 = w.alloc (.cells #[.int .i64 tx, .slice a n c] 26) := ⟨_, rfl⟩
  rw [← hW0]
  have b0 : Below w.heap.size w W0 := by rw [hW0]; exact below_a1 _ _
  have zW0 : w.heap.size ≤ W0.heap.size := b0.size
  clear hW0
  go_loopw [10] (fun iv wr => ∃ (k : Nat), k ≤ n ∧ iv = .int .i64 k ∧ Hid (findL s (es.drop k) = G) ∧ Below W0.heap.size W0 wr) (fun iv _ => n - (intOf iv).toNat)
  case atStart => exact ⟨0, Nat.zero_le _, rfl, HG.out.symm, Below.refl _ _⟩
  case round =>
    obtain ⟨k, hk, rfl, HI, hnx⟩ := hrel
    have zw := hnx.size
    by_cases hlt : k < n
    · obtain ⟨⟨x, l⟩, hx⟩ : ∃ x, es[k]? = some x := ⟨_, List.getElem?_eq_getElem (by rw [← HN.out]; exact hlt)⟩
      have hrow := Kd.below HRW.out (b0.trans (hnx.mono (by omega)))
      obtain ⟨b, off, B, C, rfl, hb, _, hi, _, hc⟩ := row_at hrow hx
      obtain ⟨la, lc, TL, rfl, gx, gl, hl, _⟩ := kEntry_open hi
      have A0 : wr.cell? ⟨b, off + k * 2, none⟩ = some (.string x) := (hc 0 _ rfl).1
      have A1 : wr.cell? ⟨b, off + k * 2 + 1, none⟩ = some (.slice la l.length lc) := (hc 1 _ rfl).1
      have i0 : (0 : Int) ≤ (k : Int) := by omega
      have i1 : (k : Int) < (n : Int) := by omega
      have HI1 : Hid ((if x = s then l else findL s (es.drop (k + 1))) = G) := by have := HI.out; rw [findL_drop hx] at this; exact this
      obtain ⟨ad, rfl⟩ := row_some hl (HFU.out k x l hx)
      have HL : Hid ((kRow kPosting).is false wr TL [.slice (some ad) l.length lc] l) := hl
      have hl20 : l.length ≤ 2 ^ 20 := Nat.le_trans (szEntL hx) HZ.out
      have HNX : Hid (Below W0.heap.size W0 wr) := hnx
      clear HI hi hl hc hrow hx
      by_cases hw : x = s
      · have HGL : Hid (l = G) := by have := HI1.out; rw [if_pos hw] at this; exact this
        have t0 : (x.toList == s.toList) = true := by rw [hw]; simp
        clear HI1 hw
        have HOE : Hid (OwnL poC 76 2 ((wr.alloc (.cells #[.string x, .slice (some ad) l.length lc] 112)).alloc (.cells #[] 76)) w.heap.size (.slice (some ⟨wr.heap.size + 1, 0, none⟩) 0 0) []) := by
          have := own_empP (wr.alloc (.cells #[.string x, .slice (some ad) l.length lc] 112)) w.heap.size (by simp; omega)
          show OwnL _ _ _ _ _ _ _
          simpa using this
        have HR1 : Hid ((kRow kPosting).is false ((wr.alloc (.cells #[.string x, .slice (some ad) l.length lc] 112)).alloc (.cells #[] 76)) TL [.slice (some ad) l.length lc] l) := Kd.below (Kd.below HL.out (below_a1 _ _)) (below_a1 _ _)
        have HB1 : Hid (Below w.heap.size w ((wr.alloc (.cells #[.string x, .slice (some ad) l.length lc] 112)).alloc (.cells #[] 76))) := ((b0.trans (hnx.mono (by omega))).trans ((below_a1 _ _).mono (by omega))).trans ((below_a1 _ _).mono (by simp; omega))
        go_wp2_with (first | (at_builtin; refine app_posts rfl _ _ rfl w.heap.size _ rfl HOE.out ad l.length lc TL l rfl HR1.out (by omega) (by simp; omega) ?_))
        intro a' n' c' w' hk' hb'
        have HK : Hid ((kRow kPosting).is true w' (fun k => w.heap.size ≤ k) [.slice a' n' c'] G) := by rw [← HGL.out]; exact hk'
        have HB : Hid (Below w.heap.size w w') := HB1.out.trans hb'
        clear hk' hb'
        go_wp2
        go_ret
        exact ⟨a', n', c', rfl, HK.out, HB.out⟩
      · have HI2 : Hid (findL s (es.drop (k + 1)) = G) := by have := HI1.out; rw [if_neg hw] at this; exact this
        have t0 : (x.toList == s.toList) = false := by
          rw [beq_eq_false_iff_ne, ByteArray.toList_eq, ByteArray.toList_eq]
          intro e
          exact hw (ByteArray.ext (Array.toList_inj.1 e))
        clear HI1 hw
        go_wp2
        go_roundw
        case rel => exact ⟨k + 1, by omega, by rfl, HI2, by go_grown⟩
        case measure => simp only [intOf]; omega
    · have HGN : Hid (G = []) := by have := HI.out; rw [List.drop_eq_nil_of_le (by rw [← HN.out]; omega)] at this; exact this.symm
      have i1 : ¬ (k : Int) < (n : Int) := by omega
      go_wp2
      go_ret
      exact ⟨none, 0, 0, rfl, by rw [HGN.out]; exact row_nil _ _ _ _ _ _, b0.trans (hnx.mono (by omega))⟩

end Go.Proofs.Ytdaomklgcdfllaa
