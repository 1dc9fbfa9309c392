/- The text that a value's nodes tell, as plain lists of bytes; and where a node's own end. -/
import Derived.Test.YtjbjgkkkkghcgaaGreatDoorPlain
namespace Go.Proofs.YtjbjgkkkkghcgaaGreatDoor

def esc (c : UInt8) : List UInt8 := if c = 34 ∨ c = 92 then [92, c] else [c]
def escL (l : List UInt8) : List UInt8 := l.flatMap esc
def quoteL (s : ByteArray) : List UInt8 := 34 :: (escL s.data.toList ++ [34])

/-- The parts of k ahead of j. -/
def kidsTo (N : Nat → Nd) (k : Nat) : Nat → List Nat
  | 0 => []
  | j + 1 => if k < j ∧ (N j).up = k then kidsTo N k j ++ [j] else kidsTo N k j

/-- The first m parts, one behind the other. -/
def innerTo (f : Nat → List UInt8) (ks : List Nat) : Nat → List UInt8
  | 0 => []
  | m + 1 => innerTo f ks m ++ ((if m = 0 then [] else [44]) ++ f (ks.getD m 0))

def headL (N : Nat → Nd) (k p : Nat) : List UInt8 := if (N k).kind = 7 then quoteL (N p).name ++ [58] else []
def openL (N : Nat → Nd) (k : Nat) : UInt8 := if (N k).kind = 7 then 123 else 91
def closeL (N : Nat → Nd) (k : Nat) : UInt8 := if (N k).kind = 7 then 125 else 93

def wordL (k : Int) : List UInt8 := if k = 1 then [110, 117, 108, 108] else if k = 2 then [102, 97, 108, 115, 101] else if k = 3 then [116, 114, 117, 101] else []

def txt (N : Nat → Nd) (n : Nat) : Nat → Nat → List UInt8
  | 0, _ => []
  | f + 1, k =>
    if (N k).kind = 4 then Lib.itoa (N k).num
    else if (N k).kind = 5 then quoteL (N k).text
    else if (N k).kind = 6 ∨ (N k).kind = 7 then openL N k :: (innerTo (fun p => headL N k p ++ txt N n f p) (kidsTo N k n) (kidsTo N k n).length ++ [closeL N k])
    else wordL (N k).kind
def T (N : Nat → Nd) (n k : Nat) : List UInt8 := txt N n (n - k) k

theorem kidsTo_mem {N : Nat → Nd} {k p : Nat} : ∀ {j : Nat}, p ∈ kidsTo N k j → k < p ∧ p < j ∧ (N p).up = k := by
  intro j
  induction j with
  | zero => intro h; simp [kidsTo] at h
  | succ j ih =>
    intro h
    unfold kidsTo at h
    split at h
    · next hc =>
      rw [List.mem_append, List.mem_singleton] at h
      rcases h with h | rfl
      · have := ih h; exact ⟨this.1, by omega, this.2.2⟩
      · exact ⟨hc.1, by omega, hc.2⟩
    · have := ih h; exact ⟨this.1, by omega, this.2.2⟩

theorem innerTo_congr {f g : Nat → List UInt8} {ks : List Nat} (h : ∀ p, p ∈ ks → f p = g p) : ∀ m, m ≤ ks.length → innerTo f ks m = innerTo g ks m := by
  intro m
  induction m with
  | zero => intro _; rfl
  | succ m ih =>
    intro hm
    unfold innerTo
    rw [ih (by omega), h _ (by rw [List.getD_eq_getElem?_getD, List.getElem?_eq_getElem (by omega)]; exact List.getElem_mem _)]

theorem txt_fuel (N : Nat → Nd) (n : Nat) : ∀ d k, n - k = d → k < n → ∀ f, n - k ≤ f → txt N n f k = txt N n (n - k) k := by
  intro d
  induction d using Nat.strongRecOn with
  | _ d ih =>
    intro k hd hk f hf
    obtain ⟨f', rfl⟩ : ∃ f', f = f' + 1 := ⟨f - 1, by omega⟩
    obtain ⟨d', hd'⟩ : ∃ d', n - k = d' + 1 := ⟨n - k - 1, by omega⟩
    rw [hd']
    unfold txt
    split
    · rfl
    · split
      · rfl
      · split
        · congr 2
          refine innerTo_congr (fun p hp => ?_) _ (Nat.le_refl _)
          obtain ⟨h1, h2, _⟩ := kidsTo_mem hp
          rw [ih (n - p) (by omega) p rfl h2 f' (by omega), ih (n - p) (by omega) p rfl h2 d' (by omega)]
        · rfl

theorem T_num {N : Nat → Nd} {n k : Nat} (hk : k < n) (h : (N k).kind = 4) : T N n k = Lib.itoa (N k).num := by
  unfold T
  obtain ⟨d', hd'⟩ : ∃ d', n - k = d' + 1 := ⟨n - k - 1, by omega⟩
  rw [hd', txt, if_pos h]
theorem T_text {N : Nat → Nd} {n k : Nat} (hk : k < n) (h : (N k).kind = 5) : T N n k = quoteL (N k).text := by
  unfold T
  obtain ⟨d', hd'⟩ : ∃ d', n - k = d' + 1 := ⟨n - k - 1, by omega⟩
  rw [hd', txt, if_neg (by omega), if_pos h]
theorem T_word {N : Nat → Nd} {n k : Nat} (hk : k < n) (h4 : (N k).kind ≠ 4) (h5 : (N k).kind ≠ 5) (h : ¬ ((N k).kind = 6 ∨ (N k).kind = 7)) : T N n k = wordL (N k).kind := by
  unfold T
  obtain ⟨d', hd'⟩ : ∃ d', n - k = d' + 1 := ⟨n - k - 1, by omega⟩
  rw [hd', txt, if_neg h4, if_neg h5, if_neg h]
theorem T_parts {N : Nat → Nd} {n k : Nat} (hk : k < n) (h : (N k).kind = 6 ∨ (N k).kind = 7) : T N n k = openL N k :: (innerTo (fun p => headL N k p ++ T N n p) (kidsTo N k n) (kidsTo N k n).length ++ [closeL N k]) := by
  unfold T
  obtain ⟨d', hd'⟩ : ∃ d', n - k = d' + 1 := ⟨n - k - 1, by omega⟩
  rw [hd', txt, if_neg (by omega), if_neg (by omega), if_pos h]
  congr 2
  refine innerTo_congr (fun p hp => ?_) _ (Nat.le_refl _)
  obtain ⟨h1, h2, _⟩ := kidsTo_mem hp
  rw [txt_fuel N n (n - p) p rfl h2 d' (by omega)]

/-- k's own end at e. -/
def IsEnd (N : Nat → Nd) (n k e : Nat) : Prop := k < e ∧ e ≤ n ∧ (∀ i, k < i → i < e → (k : Int) ≤ (N i).up) ∧ (e < n → (N e).up < k)
/-- Between two parts of k, or behind the last. -/
def Bnd (N : Nat → Nd) (n k q : Nat) : Prop := k < q ∧ q ≤ n ∧ (∀ i, k < i → i < q → (k : Int) ≤ (N i).up) ∧ (q < n → (N q).up ≤ k)

theorem bnd_start {N : Nat → Nd} {n k : Nat} (h : Pre N n) (hk : k < n) : Bnd N n k (k + 1) :=
  ⟨by omega, by omega, fun i h1 h2 => by omega, fun hq => by have := h.2 (k + 1) (by omega) hq; omega⟩

theorem anc_of_end {N : Nat → Nd} {n q e : Nat} (h : Pre N n) (he : IsEnd N n q e) : ∀ i, q ≤ i → i < e → Anc N q i := by
  intro i
  induction i using Nat.strongRecOn with
  | _ i ih =>
    intro h1 h2
    by_cases hq : i = q
    · subst hq; exact Anc.refl _ _
    · have hu := he.2.2.1 i (by omega) h2
      have hp := h.par_lt (i := i) (by omega) (by have := he.2.1; omega)
      have hle : q ≤ par N i := by unfold par; omega
      exact Anc.step (ih _ hp hle (by omega))

theorem anc_through {N : Nat → Nd} {n : Nat} (h : Pre N n) : ∀ j, j < n → ∀ p q, Anc N q j → Anc N p j → p < q → Anc N p q := by
  intro j
  induction j using Nat.strongRecOn with
  | _ j ih =>
    intro hj p q hq hp hlt
    rcases hq.cases with rfl | hq
    · exact hp
    · rcases hp.cases with rfl | hp
      · by_cases h0 : p = 0
        · subst h0
          have := h.anc_le _ (by rw [h.par_zero hj]; exact hj) _ hq
          rw [h.par_zero hj] at this
          omega
        · have h1 := h.par_lt (i := p) (by omega) hj
          have := h.anc_le _ (by omega) _ hq
          omega
      · by_cases h0 : j = 0
        · subst h0
          have := h.anc_le _ (by rw [h.par_zero hj]; exact hj) _ hq
          rw [h.par_zero hj] at this
          omega
        · have h1 := h.par_lt (i := j) (by omega) hj
          exact ih _ h1 (by omega) p q hq hp hlt

theorem kidsTo_skip {N : Nat → Nd} {k a : Nat} : ∀ d, (∀ i, a ≤ i → i < a + d → ¬ (k < i ∧ (N i).up = k)) → kidsTo N k (a + d) = kidsTo N k a := by
  intro d
  induction d with
  | zero => intro _; rfl
  | succ d ih =>
    intro h
    rw [show a + (d + 1) = (a + d) + 1 by omega, kidsTo, if_neg (h (a + d) (by omega) (by omega)), ih (fun i h1 h2 => h i h1 (by omega))]

theorem bnd_next {N : Nat → Nd} {n k q e : Nat} (h : Pre N n) (hb : Bnd N n k q) (hq : q < n) (hu : (N q).up = k) (he : IsEnd N n q e) : Bnd N n k e ∧ kidsTo N k e = kidsTo N k q ++ [q] := by
  refine ⟨⟨by have := hb.1; have := he.1; omega, he.2.1, fun i h1 h2 => ?_, fun hen => ?_⟩, ?_⟩
  · rcases Nat.lt_trichotomy i q with h3 | h3 | h3
    · exact hb.2.2.1 i h1 h3
    · subst h3; omega
    · have := he.2.2.1 i h3 h2
      have := hb.1
      omega
  · have hlt := he.2.2.2 hen
    have h1 := he.1
    have hpe := h.2 e (by omega) hen
    have hanc := hpe.2.2
    have hqa := anc_of_end h he (e - 1) (by omega) (by omega)
    have hpq : Anc N (par N e) q := anc_through h (e - 1) (by omega) _ _ hqa hanc (by unfold par; omega)
    rcases hpq.cases with e1 | e1
    · unfold par at e1; omega
    · have hpk : par N q = k := by unfold par; omega
      rw [hpk] at e1
      have := h.anc_le k (by have := hb.1; omega) _ e1
      unfold par at this
      omega
  · have h1 := he.1
    rw [show e = (q + 1) + (e - (q + 1)) by omega, kidsTo_skip]
    · rw [kidsTo, if_pos ⟨hb.1, hu⟩]
    · intro i h2 h3 ⟨_, h5⟩
      have := he.2.2.1 i (by omega) (by omega)
      have := hb.1
      omega

theorem bnd_stop {N : Nat → Nd} {n k q : Nat} (h : Pre N n) (hb : Bnd N n k q) (hs : q < n → (N q).up ≠ k) : IsEnd N n k q ∧ kidsTo N k n = kidsTo N k q := by
  refine ⟨⟨hb.1, hb.2.1, hb.2.2.1, fun hq => by have := hb.2.2.2 hq; have := hs hq; omega⟩, ?_⟩
  have := hb.2.1
  rw [show n = q + (n - q) by omega, kidsTo_skip]
  intro i h1 h2 ⟨h3, h4⟩
  have hin : i < n := by omega
  by_cases e : i = q
  · subst e; exact hs hin h4
  · have hpi := h.2 i (by omega) hin
    have hpk : par N i = k := by unfold par; omega
    have := h.le_par (s := k) (i := q) (j := i - 1) (by rw [← hpk]; exact hpi.2.2) hb.1 (by omega) (by omega)
    have h5 := hb.2.2.2 (by omega)
    have h6 := hs (by omega)
    have h7 := h.2 q (by have := hb.1; omega) (by omega)
    unfold par at this
    omega

end Go.Proofs.YtjbjgkkkkghcgaaGreatDoor
