/- The program's text of a node: numbers, texts and words. -/
import Derived.Test.YtjbjgkkkkghcgaaGreatDoorAppInt
import Derived.Test.YtjbjgkkkkghcgaaGreatDoorSpecTextB
namespace Go.Proofs.YtjbjgkkkkghcgaaGreatDoor
open Go.RowKit
set_option linter.unusedVariables false

def NodeSaid (N : Nat → Nd) (n k : Nat) : Prop := ∀ (B b off c : Nat) (v : Value) (l : List UInt8) (w : World), OwnsB w B v l → B ≤ w.heap.size → b < B → NodesAt w b off n N → Tab B w → l.length + 40000 * (n - k) ≤ 2 ^ 30 →
    Calls Tryz.prog 78 #[v, .slice (some ⟨b, off, none⟩) n c, .int .i64 k] w fun e w' => ∃ (v' : Value) (en : Nat), e = .returned (.tuple #[v', .int .i64 en]) ∧ OwnsB w' B v' (l ++ T N n k) ∧ IsEnd N n k en ∧ Below B w w'
def PartsSaid (N : Nat → Nd) (n k : Nat) : Prop := ∀ (B b off c : Nat) (v : Value) (l : List UInt8) (w : World), OwnsB w B v l → B ≤ w.heap.size → b < B → NodesAt w b off n N → Tab B w → l.length + 40000 * (n - k) ≤ 2 ^ 30 →
    Calls Tryz.prog 91 #[v, .slice (some ⟨b, off, none⟩) n c, .int .i64 k] w fun e w' => ∃ (v' : Value) (en : Nat), e = .returned (.tuple #[v', .int .i64 en]) ∧ OwnsB w' B v' (l ++ T N n k) ∧ IsEnd N n k en ∧ Below B w w'

theorem OwnsB.alloc {w : World} {B : Nat} {v : Value} {l : List UInt8} (h : OwnsB w B v l) (o : Obj) : OwnsB (w.alloc o) B v l := World.ownsRow.alloc h o

set_option maxRecDepth 100000 in
set_option maxHeartbeats 2000000 in
theorem appendNode_leaf (N : Nat → Nd) (n k : Nat) (hn : n ≤ 80) (hk : k < n) (ht : TOK N n) (hl : ¬ ((N k).kind = 6 ∨ (N k).kind = 7)) : NodeSaid N n k := by
  intro B b off c v l w hown hB hb hat htab hlen
  obtain ⟨a0, a1, a2, a3, a4⟩ := hat k hk
  have i0 : (0 : Int) ≤ (k : Int) := by omega
  have i1 : (k : Int) < (n : Int) := by omega
  have kb := ht.kind k hk
  have nb := ht.num k hk
  have tb := ht.tb.text k hk
  have HE : Hid (IsEnd N n k (k + 1)) := leaf_end ht.tb hk hl
  have HO : Hid (OwnsB w B v l) := hown
  have HTB : Hid (Tab B w) := htab
  clear hown htab hat ht
  by_cases h4 : (N k).kind = 4
  · have HR : Hid (T N n k = Lib.itoa (N k).num) := T_num hk h4
    rw [h4] at a0
    clear h4 hl kb
    go_enter Tryz.func78, Tryz.ntmps78
    go_wp2_with fail
    have hbl : Below B w (w.alloc (.cells #[.int .i64 4, .int .i64 (N k).num, .string (N k).text, .string (N k).name, .int .i64 (N k).up] 66)) := (Below.refl _ _).alloc hB _
    refine (appendInt_any B v l _ _ nb.1 nb.2 (HO.out.alloc _) (by simp; omega) (by omega) (HTB.out.on hbl)).mono ?_
    rintro e w1 ⟨v1, rfl, ho1, hb1⟩
    have HO1 : Hid (OwnsB w1 B v1 (l ++ T N n k)) := by show OwnsB _ _ _ _; rw [HR.out]; exact ho1
    have HB1 : Hid (Below B w w1) := hbl.trans hb1
    clear ho1 hb1 hbl
    go_wp2
    go_ret2
    exact ⟨v1, k + 1, by simp, HO1.out, HE.out, HB1.out⟩
  · by_cases h5 : (N k).kind = 5
    · have HR : Hid (T N n k = quoteL (N k).text) := T_text hk h5
      rw [h5] at a0
      clear h5 h4 hl kb
      go_enter Tryz.func78, Tryz.ntmps78
      go_wp2_with fail
      have hbl : Below B w (w.alloc (.cells #[.int .i64 5, .int .i64 (N k).num, .string (N k).text, .string (N k).name, .int .i64 (N k).up] 66)) := (Below.refl _ _).alloc hB _
      refine (appendQuoted_any B v l _ _ (HO.out.alloc _) (by simp; omega) tb (by omega)).mono ?_
      rintro e w1 ⟨v1, rfl, ho1, hb1⟩
      have HO1 : Hid (OwnsB w1 B v1 (l ++ T N n k)) := by show OwnsB _ _ _ _; rw [HR.out]; exact ho1
      have HB1 : Hid (Below B w w1) := hbl.trans hb1
      clear ho1 hb1 hbl
      go_wp2
      go_ret2
      exact ⟨v1, k + 1, by simp, HO1.out, HE.out, HB1.out⟩
    · have hr := T_word hk h4 h5 hl
      have h3 : (N k).kind = 1 ∨ (N k).kind = 2 ∨ (N k).kind = 3 := by omega
      obtain ⟨i0', hi, hz0, hz1, hz2⟩ := info_parts infoU8
      have HI0 : Hid (Tryz.prog.info? 5 = some i0' ∧ i0'.zero = some (.int .u8 0) ∧ i0'.size = 1 ∧ i0'.bytes = 1) := ⟨hi, hz0, hz1, hz2⟩
      clear hi hz0 hz1 hz2
      rcases h3 with h3 | h3 | h3
      · rw [h3] at a0 hr
        have HR : Hid (T N n k = [110, 117, 108, 108]) := hr
        clear h3 h4 h5 hl kb hr
        have hbl : Below B w (w.alloc (.cells #[.int .i64 1, .int .i64 (N k).num, .string (N k).text, .string (N k).name, .int .i64 (N k).up] 66)) := (Below.refl _ _).alloc hB _
        have HBL : Hid (Below B w _) := hbl
        clear hbl
        go_enter Tryz.func78, Tryz.ntmps78
        go_wp2_with (first | (at_builtin; refine Lib.wpList_append_own_string _ rfl _ _ 73 9 rfl B 5 i0' Tryz.underlying73 Tryz.underlying9 HI0.out.1 HI0.out.2.1 HI0.out.2.2.1 HI0.out.2.2.2 _ _ _ rfl (HO.out.alloc _) ⟨#[110, 117, 108, 108]⟩ rfl ?c3 ?c4 ?c5 ?_) | go_in)
        case c3 => show l.length + 4 ≤ _; unfold maxLen; omega
        case c4 => show l.length + 4 ≤ _; omega
        case c5 => simp; omega
        intro v1 w1 ho1 hg1 _
        have HB1 : Hid (Below B w w1) := HBL.out.grown hg1 (by simp; omega) (fun j hj => (World.ownsRow.lt HO.out j hj).1)
        have HO1 : Hid (OwnsB w1 B v1 (l ++ T N n k)) := by
          show OwnsB _ _ _ _
          rw [HR.out]
          unfold OwnsB
          rw [List.length_append, show Lib.byteCells (l ++ [110, 117, 108, 108]) = Lib.byteCells l ++ Lib.byteCells [110, 117, 108, 108] by simp [Lib.byteCells]]
          exact ho1
        clear ho1 hg1 HBL
        go_wp2
        go_ret2
        exact ⟨v1, k + 1, by simp, HO1.out, HE.out, HB1.out⟩
      · rw [h3] at a0 hr
        have HR : Hid (T N n k = [102, 97, 108, 115, 101]) := hr
        clear h3 h4 h5 hl kb hr
        have hbl : Below B w (w.alloc (.cells #[.int .i64 2, .int .i64 (N k).num, .string (N k).text, .string (N k).name, .int .i64 (N k).up] 66)) := (Below.refl _ _).alloc hB _
        have HBL : Hid (Below B w _) := hbl
        clear hbl
        go_enter Tryz.func78, Tryz.ntmps78
        go_wp2_with (first | (at_builtin; refine Lib.wpList_append_own_string _ rfl _ _ 73 9 rfl B 5 i0' Tryz.underlying73 Tryz.underlying9 HI0.out.1 HI0.out.2.1 HI0.out.2.2.1 HI0.out.2.2.2 _ _ _ rfl (HO.out.alloc _) ⟨#[102, 97, 108, 115, 101]⟩ rfl ?c3 ?c4 ?c5 ?_) | go_in)
        case c3 => show l.length + 5 ≤ _; unfold maxLen; omega
        case c4 => show l.length + 5 ≤ _; omega
        case c5 => simp; omega
        intro v1 w1 ho1 hg1 _
        have HB1 : Hid (Below B w w1) := HBL.out.grown hg1 (by simp; omega) (fun j hj => (World.ownsRow.lt HO.out j hj).1)
        have HO1 : Hid (OwnsB w1 B v1 (l ++ T N n k)) := by
          show OwnsB _ _ _ _
          rw [HR.out]
          unfold OwnsB
          rw [List.length_append, show Lib.byteCells (l ++ [102, 97, 108, 115, 101]) = Lib.byteCells l ++ Lib.byteCells [102, 97, 108, 115, 101] by simp [Lib.byteCells]]
          exact ho1
        clear ho1 hg1 HBL
        go_wp2
        go_ret2
        exact ⟨v1, k + 1, by simp, HO1.out, HE.out, HB1.out⟩
      · rw [h3] at a0 hr
        have HR : Hid (T N n k = [116, 114, 117, 101]) := hr
        clear h3 h4 h5 hl kb hr
        have hbl : Below B w (w.alloc (.cells #[.int .i64 3, .int .i64 (N k).num, .string (N k).text, .string (N k).name, .int .i64 (N k).up] 66)) := (Below.refl _ _).alloc hB _
        have HBL : Hid (Below B w _) := hbl
        clear hbl
        go_enter Tryz.func78, Tryz.ntmps78
        go_wp2_with (first | (at_builtin; refine Lib.wpList_append_own_string _ rfl _ _ 73 9 rfl B 5 i0' Tryz.underlying73 Tryz.underlying9 HI0.out.1 HI0.out.2.1 HI0.out.2.2.1 HI0.out.2.2.2 _ _ _ rfl (HO.out.alloc _) ⟨#[116, 114, 117, 101]⟩ rfl ?c3 ?c4 ?c5 ?_) | go_in)
        case c3 => show l.length + 4 ≤ _; unfold maxLen; omega
        case c4 => show l.length + 4 ≤ _; omega
        case c5 => simp; omega
        intro v1 w1 ho1 hg1 _
        have HB1 : Hid (Below B w w1) := HBL.out.grown hg1 (by simp; omega) (fun j hj => (World.ownsRow.lt HO.out j hj).1)
        have HO1 : Hid (OwnsB w1 B v1 (l ++ T N n k)) := by
          show OwnsB _ _ _ _
          rw [HR.out]
          unfold OwnsB
          rw [List.length_append, show Lib.byteCells (l ++ [116, 114, 117, 101]) = Lib.byteCells l ++ Lib.byteCells [116, 114, 117, 101] by simp [Lib.byteCells]]
          exact ho1
        clear ho1 hg1 HBL
        go_wp2
        go_ret2
        exact ⟨v1, k + 1, by simp, HO1.out, HE.out, HB1.out⟩

end Go.Proofs.YtjbjgkkkkghcgaaGreatDoor
