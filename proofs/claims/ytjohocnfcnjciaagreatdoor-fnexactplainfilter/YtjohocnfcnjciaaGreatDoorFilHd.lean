/- A filter of one's own, marked: the law's marks, and what holds them. No condition. A filter of one's own, marked and held: the law's walks. A filter that bears the law's marks: held; and the two walks over a filter. -/
import Derived.Test.YtjohocnfcnjciaaGreatDoorFilTo
import Derived.Test.YtjohocnfcnjciaaGreatDoorFilSzB
import Derived.Test.YtjohocnfcnjciaaGreatDoorInts
namespace Go.Proofs.YtjohocnfcnjciaaGreatDoor
open Go.RowKit
set_option linter.unusedVariables false

/-- All that lay there is as it was, but for the blocks of S. -/
structure Kept (S : Nat → Prop) (w w' : World) : Prop where
  os : w'.os = w.os
  tape : w'.tape = w.tape
  output : w'.output = w.output
  size : w.heap.size ≤ w'.heap.size
  block : ∀ k, k < w.heap.size → ¬ S k → w'.heap[k]? = w.heap[k]?
theorem Kept.refl (S : Nat → Prop) (w : World) : Kept S w w := ⟨rfl, rfl, rfl, Nat.le_refl _, fun _ _ _ => rfl⟩
theorem Kept.trans {S : Nat → Prop} {a c d : World} (h : Kept S a c) (k : Kept S c d) : Kept S a d :=
  ⟨k.os.trans h.os, k.tape.trans h.tape, k.output.trans h.output, Nat.le_trans h.size k.size, fun i hi hn => (k.block i (Nat.lt_of_lt_of_le hi h.size) hn).trans (h.block i hi hn)⟩
theorem Kept.of {S : Nat → Prop} {w w' : World} (h : Below w.heap.size w w') : Kept S w w' := ⟨h.os, h.tape, h.output, h.size, fun k hk _ => h.block k hk⟩
theorem Kept.but {S : Nat → Prop} {w w' : World} {b : Nat} (h : BelowBut w.heap.size b w w') (hb : S b ∨ w.heap.size ≤ b) : Kept S w w' := ⟨h.os, h.tape, h.output, h.size, fun k hk hn => h.block k hk (by
  rintro rfl
  rcases hb with hb | hb
  · exact hn hb
  · omega)⟩
theorem Kept.mono {S S' : Nat → Prop} {w w' : World} (h : Kept S w w') (hs : ∀ k, S k → S' k) : Kept S' w w' := ⟨h.os, h.tape, h.output, h.size, fun k hk hn => h.block k hk (fun hk' => hn (hs k hk'))⟩
theorem Kept.below {S : Nat → Prop} {B : Nat} {w w' : World} (h : Kept S w w') (hB : B ≤ w.heap.size) (hs : ∀ k, k < B → ¬ S k) : Below B w w' := ⟨h.os, h.tape, h.output, h.size, fun k hk => h.block k (by omega) (hs k hk)⟩
theorem Kept.cell {S : Nat → Prop} {w w' : World} (h : Kept S w w') {g o : Nat} (hg : g < w.heap.size) (hn : ¬ S g) : w'.cell? ⟨g, o, none⟩ = w.cell? ⟨g, o, none⟩ := World.cell?_of_block (w := w) (h.block g hg hn)
theorem Kept.frozen {S : Nat → Prop} {w w' : World} (h : Kept S w w') {g o : Nat} (hg : g < w.heap.size) (hn : ¬ S g) : w'.frozen? ⟨g, o, none⟩ = w.frozen? ⟨g, o, none⟩ := World.frozen?_of_block (w := w) (h.block g hg hn)

theorem OwnAt.kept {S : Nat → Prop} {w w' : World} {g : Nat} {v : Value} {n : Nat} {N : Nat → Nd} (h : OwnAt w g v n N) (hk : Kept S w w') (hn : n ≠ 0 → ¬ S g) : OwnAt w' g v n N := by
  obtain ⟨a, c, off, rfl, hb, h0⟩ := h
  by_cases e : n = 0
  · exact ⟨a, c, off, rfl, hb, .inl e⟩
  rcases h0 with h0 | ⟨rfl, hlt, hat, hf⟩
  · exact absurd h0 e
  · refine ⟨_, c, off, rfl, hb, .inr ⟨rfl, Nat.lt_of_lt_of_le hlt hk.size, fun i hi => ?_, fun o ho => (hk.frozen hlt (hn e)).trans (hf o ho)⟩⟩
    obtain ⟨h0, h1, h2, h3, h4⟩ := hat i hi
    exact ⟨(hk.cell hlt (hn e)).trans h0, (hk.cell hlt (hn e)).trans h1, (hk.cell hlt (hn e)).trans h2, (hk.cell hlt (hn e)).trans h3, (hk.cell hlt (hn e)).trans h4⟩
theorem OwnK.kept {S : Nat → Prop} {w w' : World} {g : Nat} {v : Value} {n : Nat} {K : Nat → Int} (h : OwnK w g v n K) (hk : Kept S w w') (hn : n ≠ 0 → ¬ S g) : OwnK w' g v n K := by
  obtain ⟨a, c, rfl, hb, h0⟩ := h
  by_cases e : n = 0
  · exact ⟨a, c, rfl, hb, .inl e⟩
  rcases h0 with h0 | ⟨rfl, hlt, hat⟩
  · exact absurd h0 e
  · exact ⟨_, c, rfl, hb, .inr ⟨rfl, Nat.lt_of_lt_of_le hlt hk.size, fun i hi => ⟨(hk.cell hlt (hn e)).trans (hat i hi).1, (hk.frozen hlt (hn e)).trans (hat i hi).2⟩⟩⟩
theorem TermOwn.kept {S : Nat → Prop} {w w' : World} {lo hi : Nat} {x : Tc} {y : Tm} (h : TermOwn w lo hi x y) (hk : Kept S w w') (hs : ∀ g, lo ≤ g → g < hi → ¬ S g) : TermOwn w' lo hi x y := by
  obtain ⟨h0, h1, h2, h3, gv, gk, h4, h5, h6, h7, h8⟩ := h
  exact ⟨h0, h1, h2, h3, gv, gk, h4, h5, h6, h7.kept hk (fun h => hs _ (h4 h).1 (h4 h).2), h8.kept hk (fun h => hs _ (h5 h).1 (h5 h).2)⟩
theorem RowAt.kept {S : Nat → Prop} {w w' : World} {b off t : Nat} {R : Nat → Tc} (h : RowAt w b off t R) (hk : Kept S w w') (hB : b < w.heap.size) (hn : ¬ S b) : RowAt w' b off t R := fun i hi => by
  obtain ⟨h0, h1, h2, h3⟩ := h i hi
  exact ⟨(hk.cell hB hn).trans h0, (hk.cell hB hn).trans h1, (hk.cell hB hn).trans h2, (hk.cell hB hn).trans h3⟩
theorem FreeR.kept {S : Nat → Prop} {w w' : World} {b off t : Nat} (h : FreeR w b off t) (hk : Kept S w w') (hB : b < w.heap.size) (hn : ¬ S b) : FreeR w' b off t := fun o ho => (hk.frozen hB hn).trans (h o ho)
theorem FOwn.kept {S : Nat → Prop} {w w' : World} {b : Nat} {a : Option Addr} {t : Nat} {F : Nat → Tm} {P Q : Nat → Nat} (h : FOwn w b a t F P Q) (hk : Kept S w w') (hne : t ≠ 0 → ¬ S b) (hi : ∀ i, i < t → ∀ g, P i ≤ g → g < Q i → ¬ S g) : FOwn w' b a t F P Q := by
  obtain ⟨h1, h2, h3, h4⟩ := h
  refine ⟨h1, ?_, fun i hi => ⟨(h3 i hi).1, Nat.le_trans (h3 i hi).2 hk.size⟩, h4⟩
  by_cases e : t = 0
  · exact .inl e
  rcases h2 with h0 | ⟨e', hlt, R, h5, h6, h7⟩
  · exact .inl h0
  · exact .inr ⟨e', Nat.lt_of_lt_of_le hlt hk.size, R, h5.kept hk hlt (hne e), h6.kept hk hlt (hne e), fun i hi' => (h7 i hi').kept hk (hi i hi')⟩

/-- The blocks of a filter of one's own. -/
def InF (b t : Nat) (P Q : Nat → Nat) (x : Nat) : Prop := x = b ∨ ∃ i, i < t ∧ P i ≤ x ∧ x < Q i

/-- What marks stand ahead of term i, and what it is then. -/
def kAt (F : Nat → Tm) (k0 : Int) : Nat → Int
  | 0 => k0
  | i + 1 => kAt F k0 i + 1 + 1 + 5 * (F i).n + (F i).m
def mkT (F : Nat → Tm) (k0 : Int) (i : Nat) : Tm := ⟨kAt F k0 i, mtext (kAt F k0 i + 1), (F i).n, fun j => mk (kAt F k0 i + 1 + 1 + 5 * j), (F i).m, fun j => kAt F k0 i + 1 + 1 + 5 * (F i).n + j⟩
theorem kAt_bound (F : Nat → Tm) (k0 : Int) : ∀ i, k0 ≤ kAt F k0 i ∧ kAt F k0 i ≤ k0 + 2 * i + 5 * totF F i := by
  intro i
  induction i with
  | zero => simp [kAt, totF]
  | succ i ih => simp only [kAt, totF]; omega
theorem totF_mono (F : Nat → Tm) {i t : Nat} (h : i ≤ t) : totF F i ≤ totF F t := by
  induction t with
  | zero => obtain rfl : i = 0 := by omega
            exact Nat.le_refl _
  | succ t ih =>
    by_cases e : i = t + 1
    · subst e; exact Nat.le_refl _
    · have := ih (by omega)
      simp only [totF]
      omega

/-- One term of a filter of one's own is changed in its place. -/
theorem FOwn.upd {w w' : World} {b t i : Nat} {F : Nat → Tm} {P Q : Nat → Nat} {R : Nat → Tc} {x : Tc} {y : Tm} (h1 : t ≤ 2 ^ 30) (h3 : ∀ i, i < t → (b < P i ∨ Q i ≤ b) ∧ Q i ≤ w.heap.size) (h4 : ∀ i j, i < j → j < t → Q i ≤ P j ∨ Q j ≤ P i)
    (hR : ∀ j, j < t → TermOwn w (P j) (Q j) (R j) (F j)) (hi : i < t) (hk : Kept (fun g => g = b ∨ (P i ≤ g ∧ g < Q i)) w w') (hlt : b < w'.heap.size) (hrow : RowAt w' b 0 t (fun j => if j = i then x else R j)) (hfree : FreeR w' b 0 t) (hx : TermOwn w' (P i) (Q i) x y) :
    FOwn w' b (some ⟨b, 0, none⟩) t (fun j => if j = i then y else F j) P Q := by
  refine ⟨h1, .inr ⟨rfl, hlt, _, hrow, hfree, fun j hj => ?_⟩, fun j hj => ⟨(h3 j hj).1, Nat.le_trans (h3 j hj).2 hk.size⟩, h4⟩
  by_cases e : j = i
  · subst e
    simp only [if_true]
    exact hx
  · simp only [if_neg e]
    refine (hR j hj).kept hk fun g hg1 hg2 hS => ?_
    have b1 := (h3 j hj).1
    rcases hS with rfl | ⟨h5, h6⟩
    · omega
    · by_cases e2 : j < i
      · have := h4 j i e2 hi; omega
      · have := h4 i j (by omega) hj; omega

end Go.Proofs.YtjohocnfcnjciaaGreatDoor
namespace Go.Proofs.YtjohocnfcnjciaaGreatDoor
open Go.RowKit
set_option linter.unusedVariables false

theorem markNodeS_any (g off' c n : Nat) (a : Option Addr) (N : Nat → Nd) (k0 : Int) (w : World) (hk0 : 0 < k0) (hk1 : k0 ≤ 2 ^ 30) (h : OwnAt w g (.slice a n c) n N) :
    Calls Tryz.prog 46 #[.slice a n c, .int .i64 k0] w fun e w' => e = .returned (.int .i64 (k0 + 5 * n)) ∧ BelowBut w.heap.size g w w' ∧ OwnAt w' g (.slice a n c) n (fun i => mk (k0 + 5 * i)) := by
  obtain ⟨a', c', off, e, hn, h0⟩ := h
  injection e with e1 e2 e3
  subst e1 e3
  rcases h0 with rfl | ⟨rfl, hb, hat, hf⟩
  · refine (markNodeS_none a c k0 w).mono ?_
    rintro e w1 ⟨rfl, rfl⟩
    exact ⟨by simp, BelowBut.refl _ _ _, a, c, 0, rfl, hn, .inl rfl⟩
  · refine (markNodeS_some g off c n N k0 w hn hk0 hk1 hb hat hf).mono ?_
    rintro e w1 ⟨rfl, hb1, hat1, hf1⟩
    exact ⟨rfl, hb1, _, c, off, rfl, hn, .inr ⟨rfl, Nat.lt_of_lt_of_le hb hb1.size, hat1, hf1⟩⟩
theorem heldNodeS_arg (c n : Nat) (a : Option Addr) (k0 : Int) (w : World) (hn : n ≤ 2 ^ 30) (hk0 : 0 < k0) (hk1 : k0 ≤ 2 ^ 30) (h : ArgIs w a n (fun i => mk (k0 + 5 * i))) :
    Calls Tryz.prog 75 #[.slice a n c, .int .i64 k0] w fun e w' => e = .returned (.int .i64 (k0 + 5 * n)) ∧ Below w.heap.size w w' := by
  rcases h with rfl | ⟨b, off, rfl, hb, hat⟩
  · refine (heldNodeS_none a c k0 w).mono ?_
    rintro e w1 ⟨rfl, rfl⟩
    exact ⟨by simp, Below.refl _ _⟩
  · exact heldNodeS_some b off c n k0 w hn hk0 hk1 hb hat
theorem markIntS_own (g c n : Nat) (a : Option Addr) (K : Nat → Int) (k0 : Int) (w : World) (hk0 : 0 < k0) (hk1 : k0 ≤ 2 ^ 30) (h : OwnK w g (.slice a n c) n K) :
    Calls Tryz.prog 25 #[.slice a n c, .int .i64 k0] w fun e w' => e = .returned (.int .i64 (k0 + n)) ∧ BelowBut w.heap.size g w w' ∧ OwnK w' g (.slice a n c) n (fun i => k0 + i) := by
  obtain ⟨a', c', e, hn, h0⟩ := h
  injection e with e1 e2 e3
  subst e1 e3
  rcases h0 with rfl | ⟨rfl, hlt, hat⟩
  · refine (markIntS_none a c k0 w).mono ?_
    rintro e w1 ⟨rfl, rfl⟩
    exact ⟨by simp, BelowBut.refl _ _ _, a, c, rfl, hn, .inl rfl⟩
  · refine (markIntS_some g c n K k0 w hn hk0 hk1 hat).mono ?_
    rintro e w1 ⟨rfl, hb, hi⟩
    exact ⟨rfl, hb, _, c, rfl, hn, .inr ⟨rfl, Nat.lt_of_lt_of_le hlt hb.size, hi⟩⟩
theorem heldIntS_own (g c n : Nat) (a : Option Addr) (k0 : Int) (w : World) (hk0 : 0 < k0) (hk1 : k0 ≤ 2 ^ 30) (h : OwnK w g (.slice a n c) n (fun i => k0 + i)) :
    Calls Tryz.prog 26 #[.slice a n c, .int .i64 k0] w fun e w' => e = .returned (.int .i64 (k0 + n)) ∧ Below w.heap.size w w' := by
  obtain ⟨a', c', e, hn, h0⟩ := h
  injection e with e1 e2 e3
  subst e1 e3
  rcases h0 with rfl | ⟨rfl, hlt, hat⟩
  · refine (heldIntS_none a c k0 w).mono ?_
    rintro e w1 ⟨rfl, rfl⟩
    exact ⟨by simp, Below.refl _ _⟩
  · exact heldIntS_some g c n k0 w hn hk0 hk1 hat

/-- A term is marked in its place. -/
theorem mark_term {wr w2 w3 w4 : World} {b t j gv gk : Nat} {G : Nat → Tm} {P Q : Nat → Nat} {R : Nat → Tc} {x : Int} {s : ByteArray} {N' : Nat → Nd} {K' : Nat → Int}
    (h1 : t ≤ 2 ^ 30) (h3 : ∀ i, i < t → (b < P i ∨ Q i ≤ b) ∧ Q i ≤ wr.heap.size) (h4 : ∀ i j, i < j → j < t → Q i ≤ P j ∨ Q j ≤ P i) (hrow : RowAt wr b 0 t R) (hfree : FreeR wr b 0 t) (hR : ∀ i, i < t → TermOwn wr (P i) (Q i) (R i) (G i)) (hj : j < t) (hb : b < wr.heap.size)
    (B2 : Below (wr.setCell ⟨b, j * 4, none⟩ (.int .i64 x)).heap.size (wr.setCell ⟨b, j * 4, none⟩ (.int .i64 x)) w2)
    (B3 : BelowBut (w2.setCell ⟨b, j * 4 + 1, none⟩ (.string s)).heap.size gv (w2.setCell ⟨b, j * 4 + 1, none⟩ (.string s)) w3) (B4 : BelowBut w3.heap.size gk w3 w4)
    (hgv : (P j ≤ gv ∧ gv < Q j) ∨ w2.heap.size ≤ gv) (hgk : (P j ≤ gk ∧ gk < Q j) ∨ w3.heap.size ≤ gk) (hv : (G j).n ≠ 0 → P j ≤ gv ∧ gv < Q j) (hk : (G j).m ≠ 0 → P j ≤ gk ∧ gk < Q j) (hk0 : (G j).m = 0 → w3.heap.size ≤ gk) (hne : (G j).n ≠ 0 → (G j).m ≠ 0 → gv ≠ gk)
    (ho : OwnAt w3 gv (.slice (R j).va (R j).vn (R j).vc) (G j).n N') (hok : OwnK w4 gk (.slice (R j).ka (R j).km (R j).kc) (G j).m K') :
    FOwn w4 b (some ⟨b, 0, none⟩) t (fun i => if i = j then ⟨x, s, (G j).n, N', (G j).m, K'⟩ else G i) P Q ∧ Kept (fun g => g = b ∨ (P j ≤ g ∧ g < Q j)) wr w4 := by
  have hQ := (h3 j hj).2
  have hbP := (h3 j hj).1
  have z1 : (wr.setCell ⟨b, j * 4, none⟩ (.int .i64 x)).heap.size = wr.heap.size := by simp [World.setCell]
  have z2 := B2.size
  rw [z1] at z2
  have z2' : (w2.setCell ⟨b, j * 4 + 1, none⟩ (.string s)).heap.size = w2.heap.size := by simp [World.setCell]
  have z3 := B3.size
  rw [z2'] at z3
  have z4 := B4.size
  have bv : b ≠ gv := by omega
  have bk : b ≠ gk := by omega
  obtain ⟨a0, a1, a2, a3⟩ := hrow j hj
  simp only [Nat.zero_add] at a0 a1
  have K1 : Kept (fun g => g = b ∨ (P j ≤ g ∧ g < Q j)) wr (wr.setCell ⟨b, j * 4, none⟩ (.int .i64 x)) := Kept.but (b := b) (BelowBut.setCell _ _ _) (.inl (.inl rfl))
  have K2 : Kept (fun g => g = b ∨ (P j ≤ g ∧ g < Q j)) (wr.setCell ⟨b, j * 4, none⟩ (.int .i64 x)) w2 := Kept.of B2
  have K3 : Kept (fun g => g = b ∨ (P j ≤ g ∧ g < Q j)) w2 (w2.setCell ⟨b, j * 4 + 1, none⟩ (.string s)) := Kept.but (b := b) (BelowBut.setCell _ _ _) (.inl (.inl rfl))
  have K4 : Kept (fun g => g = b ∨ (P j ≤ g ∧ g < Q j)) (w2.setCell ⟨b, j * 4 + 1, none⟩ (.string s)) w3 := Kept.but B3 (by rcases hgv with h | h; exact .inl (.inr h); exact .inr (by omega))
  have K5 : Kept (fun g => g = b ∨ (P j ≤ g ∧ g < Q j)) w3 w4 := Kept.but B4 (by rcases hgk with h | h; exact .inl (.inr h); exact .inr h)
  have KK := (((K1.trans K2).trans K3).trans K4).trans K5
  have c2 : ∀ o, w2.cell? ⟨b, o, none⟩ = if o = j * 4 then some (.int .i64 x) else wr.cell? ⟨b, o, none⟩ := fun o => by
    rw [B2.cell (p := ⟨b, o, none⟩) (by rw [z1]; exact hb), cell_set (by rw [a0]; rfl)]
  have c4 : ∀ o, w4.cell? ⟨b, o, none⟩ = if o = j * 4 + 1 then some (.string s) else if o = j * 4 then some (.int .i64 x) else wr.cell? ⟨b, o, none⟩ := fun o => by
    rw [B4.cell (by omega) bk, B3.cell (by omega) bv, cell_set (by rw [c2, if_neg (by omega), a1]; rfl), c2]
  refine ⟨FOwn.upd (R := R) (x := ⟨x, s, (R j).va, (R j).vn, (R j).vc, (R j).ka, (R j).km, (R j).kc⟩) h1 h3 h4 hR hj KK (by omega) (fun i hi => ?_) (fun o ho' => ?_) ?_, KK⟩
  · simp only [c4]
    by_cases e : i = j
    · subst e
      simp only [if_true, Nat.zero_add]
      refine ⟨?_, ?_, ?_, ?_⟩
      · rw [if_neg (by omega)]
      · trivial
      · rw [if_neg (by omega), if_neg (by omega)]; simpa using a2
      · rw [if_neg (by omega), if_neg (by omega)]; simpa using a3
    · obtain ⟨d0, d1, d2, d3⟩ := hrow i hi
      simp only [if_neg e]
      refine ⟨?_, ?_, ?_, ?_⟩
      · rw [if_neg (by omega), if_neg (by omega), d0]
      · rw [if_neg (by omega), if_neg (by omega), d1]
      · rw [if_neg (by omega), if_neg (by omega), d2]
      · rw [if_neg (by omega), if_neg (by omega), d3]
  · rw [B4.frozen (by omega) bk, B3.frozen (by omega) bv, World.frozen?_setCell, B2.frozen (p := ⟨b, _, none⟩) (by rw [z1]; exact hb), World.frozen?_setCell]
    exact hfree o ho'
  · obtain ⟨_, _, q2, q3, gv0, gk0, _, _, _, _, _⟩ := hR j hj
    refine ⟨rfl, rfl, q2, q3, gv, gk, hv, hk, hne, ho.butN B4 (fun hn => ?_), hok⟩
    by_cases m0 : (G j).m = 0
    · have := hk0 m0
      have := hv hn
      omega
    · exact hne hn m0

/-- The first i terms are marked. -/
def mkTo (F : Nat → Tm) (k0 : Int) (i : Nat) (j : Nat) : Tm := if j < i then mkT F k0 j else F j
theorem mkTo_zero (F : Nat → Tm) (k0 : Int) : mkTo F k0 0 = F := by
  funext j
  simp [mkTo]
theorem mkTo_step (F : Nat → Tm) (k0 : Int) (i : Nat) : (fun j => if j = i then mkT F k0 i else mkTo F k0 i j) = mkTo F k0 (i + 1) := by
  funext j
  unfold mkTo
  by_cases e : j = i
  · subst e; simp
  · by_cases h : j < i
    · have : j < i + 1 := by omega
      simp [e, h, this]
    · have : ¬ j < i + 1 := by omega
      simp [e, h, this]

set_option maxRecDepth 100000 in
set_option maxHeartbeats 4000000 in
theorem markTermS_any (b c t : Nat) (a : Option Addr) (F : Nat → Tm) (P Q : Nat → Nat) (k0 : Int) (w : World) (hk0 : 0 < k0) (hk1 : k0 ≤ 2 ^ 24) (ht : t ≤ 2 ^ 20) (htot : totF F t ≤ 2 ^ 22) (h : FOwn w b a t F P Q) :
    Calls Tryz.prog 44 #[.slice a t c, .int .i64 k0] w fun e w' => e = .returned (.int .i64 (kAt F k0 t)) ∧ Kept (InF b t P Q) w w' ∧ FOwn w' b a t (mkTo F k0 t) P Q := by
  have H : Hid (FOwn w b a t F P Q) := h
  clear h
  go_enter Tryz.func44, Tryz.ntmps44
  go_wp2_with fail
  go_loopw [1, 5] (fun k i wr => ∃ j : Nat, j ≤ t ∧ i = .int .i64 (j : Int) ∧ k = .int .i64 (kAt F k0 j) ∧ Kept (InF b t P Q) w wr ∧ Hid (FOwn wr b a t (mkTo F k0 j) P Q)) (fun _ i _ => t - (intOf i).toNat)
  case atStart => exact ⟨0, Nat.zero_le _, rfl, rfl, Kept.refl _ _, by rw [mkTo_zero]; exact H⟩
  case round =>
    obtain ⟨j, hj, rfl, rfl, hkp, HF⟩ := hrel
    by_cases hlt : j < t
    · have hmk : mkTo F k0 j j = F j := by simp [mkTo]
      obtain ⟨h1, h2, h3, h4⟩ := HF.out
      rcases h2 with h0 | ⟨rfl, hbl, R, hrow, hfree, hR⟩
      · omega
      obtain ⟨g0, g1, g2, g3⟩ := hrow j hlt
      have f0 := hfree (j * 4) (by omega)
      have f1 := hfree (j * 4 + 1) (by omega)
      simp only [Nat.zero_add] at g0 g1 g2 g3 f0 f1
      obtain ⟨_, _, _, _, gv, gk, q4, q5, q6, q7, q8⟩ := hR j hlt
      rw [hmk] at q4 q5 q6 q7 q8
      obtain ⟨e1, _⟩ := q7.argOf
      obtain ⟨e2, _⟩ := q8.arg
      have kb := kAt_bound F k0 j
      have tb1 := totF_mono F (show j + 1 ≤ t by omega)
      simp only [totF] at tb1
      have HST : Hid ((fun i => if i = j then mkT F k0 j else mkTo F k0 j i) = mkTo F k0 (j + 1)) := mkTo_step F k0 j
      have HKA : Hid (kAt F k0 (j + 1) = kAt F k0 j + 1 + 1 + 5 * (F j).n + (F j).m) := rfl
      have HMT : Hid (mkT F k0 j = ⟨kAt F k0 j, mtext (kAt F k0 j + 1), (F j).n, fun i => mk (kAt F k0 j + 1 + 1 + 5 * i), (F j).m, fun i => kAt F k0 j + 1 + 1 + 5 * (F j).n + i⟩) := rfl
      have HRW : Hid (RowAt wr b 0 t R ∧ FreeR wr b 0 t ∧ (∀ i, i < t → TermOwn wr (P i) (Q i) (R i) (mkTo F k0 j i)) ∧ (∀ i, i < t → (b < P i ∨ Q i ≤ b) ∧ Q i ≤ wr.heap.size) ∧ t ≤ 2 ^ 30 ∧ ∀ i j, i < j → j < t → Q i ≤ P j ∨ Q j ≤ P i) := ⟨hrow, hfree, hR, h3, h1, h4⟩
      have HQ7 : Hid (OwnAt wr gv (.slice (R j).va (R j).vn (R j).vc) (F j).n (F j).N) := q7
      have HQ8 : Hid (OwnK wr gk (.slice (R j).ka (R j).km (R j).kc) (F j).m (F j).K) := q8
      have HQ4 : Hid ((F j).n ≠ 0 → P j ≤ gv ∧ gv < Q j) := q4
      have HQ5 : Hid ((F j).m ≠ 0 → P j ≤ gk ∧ gk < Q j) := q5
      have HQ6 : Hid ((F j).n ≠ 0 → (F j).m ≠ 0 → gv ≠ gk) := q6
      have HKP : Hid (Kept (InF b t P Q) w wr) := hkp
      have hQ := h3 j hlt
      rw [e1] at g2
      rw [e2] at g3
      obtain ⟨kk, hkk⟩ : ∃ kk, kk = kAt F k0 j := ⟨_, rfl⟩
      rw [← hkk] at kb HKA HMT
      rw [← hkk]
      have i0 : (0 : Int) ≤ (j : Int) := by omega
      have i1 : (j : Int) < (t : Int) := by omega
      clear hrow hfree hR h3 h1 h4 q4 q5 q6 q7 q8 hkp hmk hkk
      go_wp2_with fail
      refine (markText_any (kk + 1) _ (by omega) (by omega)).mono ?_
      rintro e w2 ⟨rfl, hb2⟩
      have z2 : wr.heap.size ≤ w2.heap.size := by have := hb2.size; simpa [World.setCell] using this
      have hbz : b < (wr.setCell ⟨b, j * 4, none⟩ (.int .i64 kk)).heap.size := by simpa [World.setCell] using hbl
      have C2 : ∀ o, w2.cell? ⟨b, o, none⟩ = if o = j * 4 then some (.int .i64 kk) else wr.cell? ⟨b, o, none⟩ := fun o => by rw [hb2.cell (p := ⟨b, o, none⟩) hbz, cell_set (by rw [g0]; rfl)]
      have c1 : w2.cell? ⟨b, j * 4 + 1, none⟩ = some (.string (R j).path) := by rw [C2, if_neg (by omega)]; exact g1
      have c2 : w2.cell? ⟨b, j * 4 + 2, none⟩ = some (.slice (R j).va (F j).n (R j).vc) := by rw [C2, if_neg (by omega)]; exact g2
      have c3 : w2.cell? ⟨b, j * 4 + 3, none⟩ = some (.slice (R j).ka (F j).m (R j).kc) := by rw [C2, if_neg (by omega)]; exact g3
      have f1' : w2.frozen? ⟨b, j * 4 + 1, none⟩ = false := by rw [hb2.frozen (p := ⟨b, _, none⟩) hbz, World.frozen?_setCell]; exact f1
      have HB2 : Hid (Below (wr.setCell ⟨b, j * 4, none⟩ (.int .i64 kk)).heap.size (wr.setCell ⟨b, j * 4, none⟩ (.int .i64 kk)) w2) := hb2
      have hb2w : b < w2.heap.size := by omega
      obtain ⟨S2, hS2⟩ : ∃ S2, S2 = mtext (kk + 1) := ⟨_, rfl⟩
      rw [← hS2] at HMT
      rw [← hS2]
      clear hb2 C2 g0 g1 g2 g3 f0 f1 hS2
      go_wp2_with fail
      obtain ⟨gv', hgv', hv', hn0', ho'⟩ : ∃ g, ((P j ≤ g ∧ g < Q j) ∨ w2.heap.size ≤ g) ∧ ((F j).n ≠ 0 → g = gv) ∧ ((F j).n = 0 → w2.heap.size ≤ g) ∧ OwnAt (w2.setCell ⟨b, j * 4 + 1, none⟩ (.string S2)) g (.slice (R j).va (F j).n (R j).vc) (F j).n (F j).N := by
        by_cases n0 : (F j).n = 0
        · obtain ⟨a', c', off', e, hn', _⟩ := HQ7.out
          injection e with e3 e4 e5
          exact ⟨w2.heap.size, .inr (Nat.le_refl _), fun h => absurd n0 h, fun _ => Nat.le_refl _, (R j).va, (R j).vc, off', rfl, hn', .inl n0⟩
        · have hq := HQ4.out n0
          have h7 := HQ7.out
          rw [e1] at h7
          exact ⟨gv, .inl hq, fun _ => rfl, fun h => absurd h n0, ((h7.but (BelowBut.setCell _ _ _) (by omega)).below HB2.out).but (BelowBut.setCell _ _ _) (by omega)⟩
      refine (markNodeS_any gv' 0 (R j).vc (F j).n (R j).va (F j).N (kk + 1 + 1) _ (by omega) (by omega) ho').mono ?_
      rintro e w3 ⟨rfl, hb3, ho3⟩
      have z3 : w2.heap.size ≤ w3.heap.size := by have := hb3.size; simpa [World.setCell] using this
      have d3 : w3.cell? ⟨b, j * 4 + 3, none⟩ = some (.slice (R j).ka (F j).m (R j).kc) := by
        rw [hb3.cell (by simpa [World.setCell] using hb2w) (by omega), cell_set (by rw [c1]; rfl), if_neg (by omega)]
        exact c3
      have HB3 : Hid (BelowBut (w2.setCell ⟨b, j * 4 + 1, none⟩ (.string S2)).heap.size gv' (w2.setCell ⟨b, j * 4 + 1, none⟩ (.string S2)) w3) := hb3
      have HO3 : Hid (OwnAt w3 gv' (.slice (R j).va (F j).n (R j).vc) (F j).n (fun i => mk (kk + 1 + 1 + 5 * i))) := ho3
      clear hb3 ho3 c1 c2 c3 f1' ho'
      go_wp2_with fail
      obtain ⟨gk', hgk', hk', hk0', hok'⟩ : ∃ g, ((P j ≤ g ∧ g < Q j) ∨ w3.heap.size ≤ g) ∧ ((F j).m ≠ 0 → g = gk) ∧ ((F j).m = 0 → w3.heap.size ≤ g) ∧ OwnK w3 g (.slice (R j).ka (F j).m (R j).kc) (F j).m (F j).K := by
        by_cases m0 : (F j).m = 0
        · obtain ⟨a', c', e, hn', _⟩ := HQ8.out
          exact ⟨w3.heap.size, .inr (Nat.le_refl _), fun h => absurd m0 h, fun _ => Nat.le_refl _, (R j).ka, (R j).kc, rfl, hn', .inl m0⟩
        · have hq := HQ5.out m0
          have h8 := HQ8.out
          rw [e2] at h8
          refine ⟨gk, .inl hq, fun _ => rfl, fun h => absurd h m0, (((h8.but (BelowBut.setCell _ _ _) (fun _ => by omega)).below HB2.out).but (BelowBut.setCell _ _ _) (fun _ => by omega)).but HB3.out (fun _ => ?_)⟩
          by_cases n0 : (F j).n = 0
          · rcases hgv' with h | h
            · have := hn0' n0
              omega
            · omega
          · have := hv' n0
            have := HQ6.out n0 m0
            omega
      refine (markIntS_own gk' (R j).kc (F j).m (R j).ka (F j).K _ _ (by omega) (by omega) hok').mono ?_
      rintro e w4 ⟨rfl, hb4, ho4⟩
      have HB4 : Hid (BelowBut w3.heap.size gk' w3 w4) := hb4
      have HO4 : Hid (OwnK w4 gk' (.slice (R j).ka (F j).m (R j).kc) (F j).m (fun i => kk + 1 + 1 + 5 * (F j).n + i)) := ho4
      clear hb4 ho4 hok' d3
      have hmk : mkTo F k0 j j = F j := by simp [mkTo]
      obtain ⟨m1, m2, m3, m4, m5, m6⟩ := HRW.out
      obtain ⟨r1, r2⟩ := mark_term (G := mkTo F k0 j) (x := kk) (s := S2) (gv := gv') (gk := gk') (N' := fun i => mk (kk + 1 + 1 + 5 * i)) (K' := fun i => kk + 1 + 1 + 5 * (F j).n + i) m5 m4 m6 m1 m2 m3 hlt hbl HB2.out HB3.out HB4.out hgv' hgk' (by rw [hmk]; exact fun h => by rw [hv' h]; exact HQ4.out h) (by rw [hmk]; exact fun h => by rw [hk' h]; exact HQ5.out h) (by rw [hmk]; exact hk0') (by rw [hmk]; exact fun h1 h2 => by rw [hv' h1, hk' h2]; exact HQ6.out h1 h2) (by rw [hmk, e1]; exact HO3.out) (by rw [hmk, e2]; exact HO4.out)
      rw [hmk] at r1
      have HR1 : Hid (FOwn w4 b (some ⟨b, 0, none⟩) t (mkTo F k0 (j + 1)) P Q) := by
        rw [← HST.out, HMT.out]
        exact r1
      have HR2 : Hid (Kept (InF b t P Q) w w4) := HKP.out.trans (r2.mono fun g hg => by
        rcases hg with h | h
        · exact .inl h
        · exact .inr ⟨j, hlt, h⟩)
      clear r1 r2 m1 m2 m3 m4 m5 m6 hmk
      go_wp2
      go_roundw
      case rel => exact ⟨j + 1, by omega, by go_num, by rw [HKA.out], HR2.out, HR1⟩
      case measure => simp [intOf]; omega
    · obtain rfl : j = t := by omega
      go_wp2
      go_ret
      exact ⟨rfl, hkp, HF.out⟩

end Go.Proofs.YtjohocnfcnjciaaGreatDoor
namespace Go.Proofs.YtjohocnfcnjciaaGreatDoor
open Go.RowKit
set_option linter.unusedVariables false

set_option maxRecDepth 100000 in
set_option maxHeartbeats 4000000 in
theorem heldTermS_any (b c t : Nat) (a : Option Addr) (F : Nat → Tm) (P Q : Nat → Nat) (k0 : Int) (w : World) (hk0 : 0 < k0) (hk1 : k0 ≤ 2 ^ 24) (ht : t ≤ 2 ^ 20) (htot : totF F t ≤ 2 ^ 22) (h : FOwn w b a t (mkTo F k0 t) P Q) :
    Calls Tryz.prog 45 #[.slice a t c, .int .i64 k0] w fun e w' => e = .returned (.int .i64 (kAt F k0 t)) ∧ Below w.heap.size w w' := by
  have H : Hid (FOwn w b a t (mkTo F k0 t) P Q) := h
  clear h
  go_enter Tryz.func45, Tryz.ntmps45
  go_wp2_with fail
  go_loopw [1, 5] (fun k i wr => ∃ j : Nat, j ≤ t ∧ i = .int .i64 (j : Int) ∧ k = .int .i64 (kAt F k0 j) ∧ Below w.heap.size w wr) (fun _ i _ => t - (intOf i).toNat)
  case atStart => exact ⟨0, Nat.zero_le _, rfl, rfl, Below.refl _ _⟩
  case round =>
    obtain ⟨j, hj, rfl, rfl, hnx⟩ := hrel
    by_cases hlt : j < t
    · have hmk : mkTo F k0 t j = mkT F k0 j := by simp [mkTo, hlt]
      obtain ⟨h1, h2, h3, h4⟩ := H.out.below hnx
      rcases h2 with h0 | ⟨rfl, hbl, R, hrow, hfree, hR⟩
      · omega
      obtain ⟨g0, g1, g2, g3⟩ := hrow j hlt
      simp only [Nat.zero_add] at g0 g1 g2 g3
      have hRj := hR j hlt
      rw [hmk] at hRj
      obtain ⟨e0, e1, _, _, gv, gk, _, _, _, q7, q8⟩ := hRj
      dsimp only [mkT] at e0 e1 q7 q8
      obtain ⟨e2, q7'⟩ := q7.argOf
      obtain ⟨e3, _⟩ := q8.arg
      rw [e0] at g0
      rw [e1] at g1
      rw [e2] at g2
      rw [e3] at g3 q8
      have kb := kAt_bound F k0 j
      have tb1 := totF_mono F (show j + 1 ≤ t by omega)
      simp only [totF] at tb1
      have HKA : Hid (kAt F k0 (j + 1) = kAt F k0 j + 1 + 1 + 5 * (F j).n + (F j).m) := rfl
      have HQ7 : Hid (ArgIs wr (R j).va (F j).n (fun i => mk (kAt F k0 j + 1 + 1 + 5 * i))) := q7'
      have HQ8 : Hid (OwnK wr gk (.slice (R j).ka (F j).m (R j).kc) (F j).m (fun i => kAt F k0 j + 1 + 1 + 5 * (F j).n + i)) := q8
      have HNX : Hid (Below w.heap.size w wr) := hnx
      obtain ⟨kk, hkk⟩ : ∃ kk, kk = kAt F k0 j := ⟨_, rfl⟩
      rw [← hkk] at kb HKA HQ7 HQ8 g0 g1
      rw [← hkk]
      have i0 : (0 : Int) ≤ (j : Int) := by omega
      have i1 : (j : Int) < (t : Int) := by omega
      clear hrow hfree hR h3 h1 h4 q7 q7' q8 hnx hmk hkk e0 e1 e2 e3
      obtain ⟨S2, hS2⟩ : ∃ S2, S2 = mtext (kk + 1) := ⟨_, rfl⟩
      rw [← hS2] at g1
      go_wp2_with fail
      go_region_held3 (fun w' => w'.cell? ⟨b, j * 4 + 1, none⟩ = some (.string S2)) (first | exact g1 | exact (hc1 _ _ hbl).trans g1)
        (first | (go_at_call 74; refine (markText_any (kk + 1) _ (by omega) (by omega)).mono ?_; rw [← hS2]; rintro e w1 ⟨rfl, hb1⟩; obtain ⟨hc1, hf1⟩ := bcell hb1))
      have z1 : wr.heap.size ≤ w1.heap.size := hb1.size
      have B1 : Below wr.heap.size wr w1 := (Below.drew (Below.refl wr.heap.size wr)).trans hb1
      have d2 : w1.cell? ⟨b, j * 4 + 2, none⟩ = some (.slice (R j).va (F j).n (R j).vc) := (hc1 _ _ hbl).trans g2
      have d3 : w1.cell? ⟨b, j * 4 + 3, none⟩ = some (.slice (R j).ka (F j).m (R j).kc) := (hc1 _ _ hbl).trans g3
      have HQ71 : Hid (ArgIs w1 (R j).va (F j).n (fun i => mk (kk + 1 + 1 + 5 * i))) := HQ7.out.below B1
      have HQ81 : Hid (OwnK w1 gk (.slice (R j).ka (F j).m (R j).kc) (F j).m (fun i => kk + 1 + 1 + 5 * (F j).n + i)) := HQ8.out.below B1
      have HB1 : Hid (Below w.heap.size w w1) := HNX.out.trans (B1.mono HNX.out.size)
      clear hb1 hc1 hf1 B1 g0 g1 g2 g3 HQ7 HQ8 hS2
      go_wp2_with fail
      refine (heldNodeS_arg (R j).vc (F j).n (R j).va (kk + 1 + 1) _ (by omega) (by omega) (by omega) HQ71.out).mono ?_
      rintro e w2 ⟨rfl, hb2⟩
      have z2 := hb2.size
      have c3 : w2.cell? ⟨b, j * 4 + 3, none⟩ = some (.slice (R j).ka (F j).m (R j).kc) := (hb2.cell (by show b < _; omega)).trans d3
      have HQ82 : Hid (OwnK w2 gk (.slice (R j).ka (F j).m (R j).kc) (F j).m (fun i => kk + 1 + 1 + 5 * (F j).n + i)) := HQ81.out.below hb2
      have HB2 : Hid (Below w.heap.size w w2) := HB1.out.trans (hb2.mono HB1.out.size)
      have nk : ¬ kk + 1 + 1 + 5 * ((F j).n : Int) < 0 := by omega
      clear hb2 d2 d3 HQ71 HQ81
      go_wp2_with fail
      refine (heldIntS_own gk (R j).kc (F j).m (R j).ka (kk + 1 + 1 + 5 * (F j).n) _ (by omega) (by omega) HQ82.out).mono ?_
      rintro e w3 ⟨rfl, hb3⟩
      have HB3 : Hid (Below w.heap.size w w3) := HB2.out.trans (hb3.mono HB2.out.size)
      have nk2 : ¬ kk + 1 + 1 + 5 * ((F j).n : Int) + ((F j).m : Int) < 0 := by omega
      clear hb3 c3 HQ82
      go_wp2
      go_roundw
      case rel => exact ⟨j + 1, by omega, by go_num, by rw [HKA.out], HB3.out⟩
      case measure => simp [intOf]; omega
    · obtain rfl : j = t := by omega
      go_wp2
      go_ret
      exact ⟨rfl, hnx⟩

set_option maxHeartbeats 1000000 in
theorem markFilter_any (b c t : Nat) (a : Option Addr) (F : Nat → Tm) (P Q : Nat → Nat) (k0 : Int) (w : World) (hk0 : 0 < k0) (hk1 : k0 ≤ 2 ^ 24) (ht : t ≤ 2 ^ 20) (htot : totF F t ≤ 2 ^ 22) (h : FOwn w b a t F P Q) :
    Calls Tryz.prog 16 #[.agg #[.slice a t c], .int .i64 k0] w fun e w' => e = .returned (.int .i64 (kAt F k0 t)) ∧ Kept (InF b t P Q) w w' ∧ FOwn w' b a t (mkTo F k0 t) P Q := by
  have H : Hid (FOwn w b a t F P Q) := h
  clear h
  have hal : ∀ o, Below w.heap.size w (w.alloc o) := fun o => (Below.refl _ _).alloc (Nat.le_refl _) o
  go_enter Tryz.func16, Tryz.ntmps16
  go_wp2_with fail
  refine (markTermS_any b c t a F P Q k0 _ hk0 hk1 ht htot (H.out.below (hal _))).mono ?_
  rintro e w1 ⟨rfl, hk, hF⟩
  have HK : Hid (Kept (InF b t P Q) w w1) := (Kept.of (hal _)).trans hk
  have HF : Hid (FOwn w1 b a t (mkTo F k0 t) P Q) := hF
  clear hk hF hal
  go_wp2
  go_ret
  exact ⟨rfl, HK.out, HF.out⟩

set_option maxHeartbeats 1000000 in
theorem heldFilter_any (b c t : Nat) (a : Option Addr) (F : Nat → Tm) (P Q : Nat → Nat) (k0 : Int) (w : World) (hk0 : 0 < k0) (hk1 : k0 ≤ 2 ^ 24) (ht : t ≤ 2 ^ 20) (htot : totF F t ≤ 2 ^ 22) (h : FOwn w b a t (mkTo F k0 t) P Q) :
    Calls Tryz.prog 17 #[.agg #[.slice a t c], .int .i64 k0] w fun e w' => e = .returned (.int .i64 (kAt F k0 t)) ∧ Below w.heap.size w w' := by
  have H : Hid (FOwn w b a t (mkTo F k0 t) P Q) := h
  clear h
  have hal : ∀ o, Below w.heap.size w (w.alloc o) := fun o => (Below.refl _ _).alloc (Nat.le_refl _) o
  have kb := kAt_bound F k0 t
  have nk : ¬ kAt F k0 t < 0 := by omega
  go_enter Tryz.func17, Tryz.ntmps17
  go_wp2_with fail
  refine (heldTermS_any b c t a F P Q k0 _ hk0 hk1 ht htot (H.out.below (hal _))).mono ?_
  rintro e w1 ⟨rfl, hb⟩
  have HB : Hid (Below w.heap.size w w1) := (hal _).trans (hb.mono (by simp))
  clear hb hal
  go_wp2
  go_ret
  exact ⟨rfl, HB.out⟩

end Go.Proofs.YtjohocnfcnjciaaGreatDoor
