/- A word of a text counted: the specification's l10Count. No condition but that they fit in memory. -/
import Derived.Test.YtikgcgfigcolmaaCtM
namespace Go.Proofs.Ytikgcgfigcolmaa
open Go.RowKit
set_option linter.unusedVariables false

/-- What counting answers. -/
def RCount (es : List DEntry) (x : ByteArray) (t : Int) (S : Nat → Prop) (w : World) (e : Ending) (w' : World) : Prop := ∃ v, e = .returned v ∧ EB w' (fun k => S k ∨ w.heap.size ≤ k) v (cntW t es x) ∧ KeptO S w w'
theorem keys_both {L : List (ByteArray × Value)} {es : List DEntry} (h : L.map (·.1) = es.map (·.1)) {i : Nat} {p : DEntry} (hp : es[i]? = some p) : ∃ u, L[i]? = some (p.1, u) := keys_at h (u := p.2) hp
/-- A word that is new. -/
theorem RCount.new {es : List DEntry} {x : ByteArray} {t : Int} {S : Nat → Prop} {w w3 : World} {L : List (ByteArray × Value)} {v3 : Value} {k gp : Nat} (hP : PL w S L es) (h1 : ∀ i p, i < k → L[i]? = some p → lessB p.1 x = true) (h2 : ∀ p, L[k]? = some p → lessB p.1 x = false ∧ p.1 ≠ x)
    (hgp : w.heap.size ≤ gp) (ho : OwnL enC 85 2 w3 w.heap.size v3 (L.take k ++ [(x, Value.slice (some ⟨gp, 0, none⟩) 1 1)] ++ L.drop k)) (hp : OwnL poC 43 2 w3 0 (.slice (some ⟨gp, 0, none⟩) 1 1) [(t, 1)]) (hne : v3.ownBlock ≠ some gp) (hb : Below w.heap.size w w3) : RCount es x t S w (.returned v3) w3 := by
  have e1 : ∀ i p, i < k → es[i]? = some p → lessB p.1 x = true := fun i p hi hp => by
    obtain ⟨u, hu⟩ := keys_both hP.keys hp
    exact h1 i _ hi hu
  have e2 : ∀ p, es[k]? = some p → lessB p.1 x = false ∧ p.1 ≠ x := fun p hp => by
    obtain ⟨u, hu⟩ := keys_both hP.keys hp
    exact h2 _ hu
  have hb0 : getD x [] es = [] := get_new hP.rise e1 e2
  have hL : setK x (Value.slice (some ⟨gp, 0, none⟩) 1 1) L = L.take k ++ [(x, Value.slice (some ⟨gp, 0, none⟩) 1 1)] ++ L.drop k := by rw [set_new hP.riseL h1 h2]; simp
  have hpl := hP.put (x := x) (v' := Value.slice (some ⟨gp, 0, none⟩) 1 1) (l' := [(t, 1)]) hp (KeptO.of hb) (.inr ⟨gp, rfl, hgp⟩)
  refine ⟨v3, rfl, ⟨setK x (Value.slice (some ⟨gp, 0, none⟩) 1 1) L, ?_, ?_, fun q hq => .inr (World.ownsRow.lt ho q hq).1, fun y q hq hq' => ?_⟩, KeptO.of hb⟩
  · rw [hL]
    exact ho.mono (Nat.zero_le _)
  · unfold cntW
    rw [hb0]
    exact hpl
  · rw [getD_setK hP.riseL] at hq
    have hlt := (World.ownsRow.lt ho q hq').1
    by_cases e : y = x
    · rw [if_pos e] at hq
      exact hne (hq'.trans hq.symm)
    · rw [if_neg e] at hq
      have := (hP.own y).blt hq
      omega
/-- One more of the same text. -/
theorem RCount.more {es : List DEntry} {x : ByteArray} {t : Int} {S : Nat → Prop} {w w' : World} {L : List (ByteArray × Value)} {v u : Value} {l' : List DPosting} {gu : Nat} (hP : PL w S L es) (hO : OwnL enC 85 2 w 0 v L) (hV : ∀ k, v.ownBlock = some k → S k) (hD : ∀ y k, (getD y nilV L).ownBlock = some k → v.ownBlock ≠ some k)
    (hu : getD x nilV L = u) (hk : getK x L = some u) (hgu : u.ownBlock = some gu) (hp : OwnL poC 43 2 w' 0 u l') (hl : bump t (getD x [] es) = l') (hb : KeptO (fun q => q = gu) w w') : RCount es x t S w (.returned v) w' := by
  have hb1 : KeptO (fun k => (getD x nilV L).ownBlock = some k) w w' := hb.mono fun q e => by rw [hu, hgu, e]
  have hpl := hP.put (x := x) (v' := u) (l' := l') hp hb1 (.inl (by rw [hu]))
  rw [setK_self hP.riseL hk] at hpl
  have hSg : S gu := hP.blk x gu (by rw [hu]; exact hgu)
  refine ⟨v, rfl, ⟨L, hO.stay fun q hq => hb.block q (hO.blt hq) (fun e => hD x gu (by rw [hu]; exact hgu) (e ▸ hq)), ?_, fun q hq => .inl (hV q hq), hD⟩, hb.mono fun q e => e ▸ hSg⟩
  unfold cntW
  rw [hl]
  exact hpl
/-- The first of another text. -/
theorem RCount.next {es : List DEntry} {x : ByteArray} {t : Int} {S : Nat → Prop} {w w1 w' : World} {L : List (ByteArray × Value)} {u u' : Value} {l' : List DPosting} {g n c k : Nat} (hP : PL w S L es) (hO : OwnL enC 85 2 w 0 (.slice (some ⟨g, 0, none⟩) n c) L) (hV : ∀ k, (Value.slice (some ⟨g, 0, none⟩) n c).ownBlock = some k → S k) (hD : ∀ y k, (getD y nilV L).ownBlock = some k → (Value.slice (some ⟨g, 0, none⟩) n c).ownBlock ≠ some k)
    (hx : L[k]? = some (x, u)) (hp : OwnL poC 43 2 w1 0 u' l') (hl : bump t (getD x [] es) = l') (hb0 : KeptO (fun q => u.ownBlock = some q) w w1) (hm : u'.ownBlock = u.ownBlock ∨ ∃ q, u'.ownBlock = some q ∧ w.heap.size ≤ q) (hw : w' = w1.setCell ⟨g, k * 2 + 1, none⟩ u') : RCount es x t S w (.returned (.slice (some ⟨g, 0, none⟩) n c)) w' := by
  have hu : getD x nilV L = u := getD_at hP.riseL hx
  have hg : g < w.heap.size := hO.blt rfl
  have hug : u.ownBlock ≠ some g := fun e => hD x g (by rw [hu]; exact e) rfl
  have hug' : u'.ownBlock ≠ some g := fun e => by
    rcases hm with h | ⟨q, h, hq⟩
    · exact hug (h ▸ e)
    · rw [h] at e; injection e with e; omega
  have hpl := hP.put (x := x) (v' := u') (l' := l') hp (hb0.mono fun q e => by rw [hu]; exact e) (by rw [hu]; exact hm)
  have hO1 : OwnL enC 85 2 w1 0 (.slice (some ⟨g, 0, none⟩) n c) L := hO.stay fun q hq => by
    have e : g = q := by injection hq
    subst e
    exact hb0.block g hg hug
  have hO2 : OwnL enC 85 2 w' 0 (.slice (some ⟨g, 0, none⟩) n c) (setK x u' L) := by
    rw [hw, set_split hP.riseL hx]
    exact OwnL.put (cs := enC) (wd := 2) (fun _ => rfl) hO1 (j := 1) hx (by decide) rfl
  have hne : ∀ y q, (getD y nilV (setK x u' L)).ownBlock = some q → q ≠ g := fun y q hq e => by
    subst e
    rw [getD_setK hP.riseL] at hq
    by_cases e : y = x
    · rw [if_pos e] at hq
      exact hug' hq
    · rw [if_neg e] at hq
      exact hD y q hq rfl
  refine ⟨_, rfl, ⟨setK x u' L, hO2, ?_, fun q hq => .inl (hV q hq), fun y q hq hq' => ?_⟩, ?_⟩
  · unfold cntW
    rw [hl]
    exact hpl.stay fun y q hq => by rw [hw]; exact heap_set_ne (hne y q hq)
  · have e : g = q := by injection hq'
    exact hne y q hq e.symm
  · refine ⟨by rw [hw]; exact hb0.os, by rw [hw]; exact hb0.tape, by rw [hw]; exact hb0.output, by rw [hw]; simpa using hb0.size, fun q hq hn => ?_⟩
    have hqg : q ≠ g := fun e => hn (hV q (by rw [e]; rfl))
    rw [hw, heap_set_ne hqg]
    exact hb0.block q hq fun e => hn (hP.blk x q (by rw [hu]; exact e))
theorem bump_last {t p1 p2 : Int} {l : List DPosting} {m : Nat} (hm : l.length = m + 1) (h : l[m]? = some (p1, p2)) : bump t l = if p1 = t then l.set m (p1, p2 + 1) else l ++ [(t, 1)] := by
  have e : l.getLast? = some (p1, p2) := by rw [List.getLast?_eq_getElem?, hm]; exact h
  unfold bump
  rw [e]
  simp only
  split
  · have hlt : m < l.length := by omega
    rw [List.set_eq_take_append_cons_drop, if_pos hlt, List.dropLast_eq_take, hm]
    simp only [Nat.add_sub_cancel]
    rw [List.drop_eq_nil_of_le (by omega)]
  · rfl
set_option maxRecDepth 100000 in
set_option maxHeartbeats 8000000 in
theorem l10Count_k (es : List DEntry) (a : Option Addr) (n c : Nat) (x : ByteArray) (t : Int) (S : Nat → Prop) (w : World) (h : EB w S (.slice a n c) es) (hxm : x.size ≤ maxLen) (hl : es.length ≤ 2 ^ 20) (hp : ∀ y, (getD y [] es).length ≤ 2 ^ 20) (hf : Filled es) (hs : ∀ y, ∀ p ∈ getD y [] es, 0 ≤ p.1 ∧ p.1 ≤ 2 ^ 20 ∧ 0 ≤ p.2 ∧ p.2 ≤ 2 ^ 20) (ht : 0 ≤ t ∧ t ≤ 2 ^ 20) :
    Calls Try.prog 43 #[.slice a n c, .string x, .int .i64 t] w (RCount es x t S w) := by
  obtain ⟨a', c', e, hc'⟩ := h.form
  obtain ⟨rfl, hn, rfl⟩ : a = a' ∧ n = es.length ∧ c = c' := by simpa using e
  obtain ⟨L, hO, hP, hV, hD⟩ := h
  have eL : L.length = es.length := by have := congrArg List.length hP.keys; simpa using this
  have HN : Hid (n = L.length) := hn.trans eL.symm
  have HNE : Hid (n = es.length) := hn
  have n20 : n ≤ 2 ^ 20 := by omega
  have hnc : n ≤ c := by rw [hn]; exact hc'
  have HO : Hid (OwnL enC 85 2 w 0 (.slice a n c) L) := hO
  have HP : Hid (PL w S L es) := hP
  have HV : Hid (∀ k, (Value.slice a n c).ownBlock = some k → S k) := hV
  have HD : Hid (∀ y k, (getD y nilV L).ownBlock = some k → (Value.slice a n c).ownBlock ≠ some k) := hD
  have HPS : Hid (∀ y, (getD y [] es).length ≤ 2 ^ 20) := hp
  have HF : Hid (Filled es) := hf
  have HS : Hid (∀ y, ∀ p ∈ getD y [] es, 0 ≤ p.1 ∧ p.1 ≤ 2 ^ 20 ∧ 0 ≤ p.2 ∧ p.2 ≤ 2 ^ 20) := hs
  clear hO hP hV hD hp hf hs hl hn eL e hc'
  go_enter Try.func43, Try.ntmps43
  go_wp2_with fail
  go_loopw [7] (fun iv wr => ∃ (k : Nat), k ≤ n ∧ iv = .int .i64 k ∧ Hid (∀ i p, i < k → L[i]? = some p → lessB p.1 x = true) ∧ wr = w) (fun iv _ => n - (intOf iv).toNat)
  case atStart => exact ⟨0, Nat.zero_le _, rfl, (fun i p hi => absurd hi (Nat.not_lt_zero _)), rfl⟩
  case round =>
    obtain ⟨k, hk, rfl, HI, hwr⟩ := hrel
    have hwr' : w = wr := hwr.symm
    subst hwr'
    clear hwr
    by_cases hlt : k < n
    · obtain ⟨⟨y, u⟩, hx⟩ : ∃ p, L[k]? = some p := ⟨_, List.getElem?_eq_getElem (by rw [← HN.out]; exact hlt)⟩
      obtain ⟨g, rfl, hg, hc⟩ := OwnL.at (cs := enC) (wd := 2) (fun _ => rfl) HO.out hx
      have A0 : w.cell? ⟨g, k * 2, none⟩ = some (.string y) := (hc 0 _ rfl).1
      have i0 : (0 : Int) ≤ (k : Int) := by omega
      have i1 : (k : Int) < (n : Int) := by omega
      have i2 : ¬ (k : Int) = (n : Int) := by omega
      cases hb : lessB y x with
      | true =>
        have hb' : Op.bytesLess y.toList x.toList = true := hb
        have HIN : Hid (∀ i p, i < k + 1 → L[i]? = some p → lessB p.1 x = true) := fun i p hi hp => by
          by_cases e : i = k
          · subst e
            rw [hx] at hp
            injection hp with hp
            rw [← hp]
            exact hb
          · exact HI.out i p (by omega) hp
        clear HI hx hb hc
        go_wp2
        go_roundw
        case rel => exact ⟨k + 1, by omega, by go_num, HIN, trivial⟩
        case measure => simp [intOf]; omega
      | false =>
        have hb' : Op.bytesLess y.toList x.toList = false := hb
        by_cases hyx : y = x
        · subst hyx
          have hgk : getK y L = some u := mem_getK HP.out.riseL (List.mem_of_getElem? hx)
          have hgd : getD y nilV L = u := getD_at HP.out.riseL hx
          obtain ⟨l, hl⟩ : ∃ l, l = getD y [] es := ⟨_, rfl⟩
          have hown := HP.out.own y
          rw [hgd, ← hl] at hown
          have hlne : l ≠ [] := by
            have h1 : ∃ m, es[k]? = some (y, m) := keys_at HP.out.keys.symm hx
            obtain ⟨m, hm⟩ := h1
            rw [hl, getD_at HP.out.rise hm]
            exact HF.out (y, m) (List.mem_of_getElem? hm)
          obtain ⟨ua, uc, hu, _⟩ := hown.form
          obtain ⟨m, hm⟩ : ∃ m, l.length = m + 1 := ⟨l.length - 1, by have := List.length_pos_iff.2 hlne; omega⟩
          rw [hm] at hu
          subst hu
          obtain ⟨⟨p1, p2⟩, hlast⟩ : ∃ p, l[m]? = some p := ⟨_, List.getElem?_eq_getElem (by omega)⟩
          obtain ⟨gu, rfl, hgu, hcu⟩ := OwnL.at (cs := poC) (wd := 2) (fun _ => rfl) hown hlast
          have A1 : w.cell? ⟨g, k * 2 + 1, none⟩ = some (.slice (some ⟨gu, 0, none⟩) (m + 1) uc) := (hc 1 _ rfl).1
          have F1 : w.frozen? ⟨g, k * 2 + 1, none⟩ = false := (hc 1 _ rfl).2
          have P0 : w.cell? ⟨gu, m * 2, none⟩ = some (.int .i64 p1) := (hcu 0 _ rfl).1
          have P1 : w.cell? ⟨gu, m * 2 + 1, none⟩ = some (.int .i64 p2) := (hcu 1 _ rfl).1
          have G1 : w.frozen? ⟨gu, m * 2 + 1, none⟩ = false := (hcu 1 _ rfl).2
          have hps := HS.out y (p1, p2) (by rw [← hl]; exact List.mem_of_getElem? hlast)
          have m20 : m + 1 ≤ 2 ^ 20 := by have := HPS.out y; rw [← hl, hm] at this; exact this
          obtain ⟨_, _, q1, q2⟩ := hps
          have q1' : 0 ≤ p2 := q1
          have q2' : p2 ≤ 2 ^ 20 := q2
          have HBU : Hid (bump t (getD y [] es) = if p1 = t then l.set m (p1, p2 + 1) else l ++ [(t, 1)]) := by show _ = _; rw [← hl]; exact bump_last hm hlast
          have HOU : Hid (OwnL poC 43 2 w 0 (.slice (some ⟨gu, 0, none⟩) (m + 1) uc) l) := hown
          have HLM : Hid (l.length < 2 ^ 30) := by show _ < _; omega
          have HGD : Hid (getD y nilV L = .slice (some ⟨gu, 0, none⟩) (m + 1) uc ∧ getK y L = some (.slice (some ⟨gu, 0, none⟩) (m + 1) uc) ∧ L[k]? = some (y, .slice (some ⟨gu, 0, none⟩) (m + 1) uc)) := ⟨hgd, hgk, hx⟩
          have HLAST : Hid (l[m]? = some (p1, p2)) := hlast
          have hgg : g ≠ gu := fun e => HD.out y gu (by rw [hgd]; rfl) (by rw [e]; rfl)
          have m0 : (0 : Int) ≤ (m : Int) := by omega
          have hyy : (y.toList == y.toList) = true := by simp
          clear hc hcu hx hl hm hlast hown hgk hgd hlne q1 q2
          by_cases hpt : p1 = t
          · have hpt' : (p1 == t) = true := by simpa using hpt
            have HPT : Hid (p1 = t) := hpt
            clear hpt
            go_wp2
            go_ret
            exact RCount.more HP.out HO.out HV.out HD.out HGD.out.1 HGD.out.2.1 (gu := gu) rfl (OwnL.put (cs := poC) (wd := 2) (fun _ => rfl) HOU.out (i := m) (j := 1) (y := (p1, p2 + 1)) HLAST.out (by decide) rfl) (by rw [HBU.out, if_pos HPT.out]) ⟨rfl, rfl, rfl, by simp, fun q _ hq => heap_set_ne hq⟩
          · have hpt' : (p1 == t) = false := by simpa using hpt
            have HPT : Hid (¬ p1 = t) := hpt
            clear hpt
            go_wp2_with (at_builtin; go_loud (refine app_post rfl _ _ rfl 0 (.slice (some ⟨gu, 0, none⟩) (m + 1) uc) l rfl (OwnL.below HOU.out (below_a1' _ _)) _ (t, 1) rfl (cell_b1 _ _ _ _).1 (cell_b1 _ _ _ _).2 HLM.out (Nat.zero_le _) ?_))
            intro v' w5 ho5 _ hg5
            obtain ⟨va', vc', hv', _⟩ := ho5.form
            obtain ⟨vm', hvm'⟩ : ∃ vm', vm' = (l ++ [(t, (1 : Int))]).length := ⟨_, rfl⟩
            rw [← hvm'] at hv'
            subst hv'
            have hbu : (Value.slice (some ⟨gu, 0, none⟩) (m + 1) uc).ownBlock ≠ some g := fun e => hgg (by injection e with e; exact e.symm)
            have D1 : w5.cell? ⟨g, k * 2 + 1, none⟩ = some (.slice (some ⟨gu, 0, none⟩) (m + 1) uc) := by rw [hg5.kept.cell (by simp; omega) hbu, (below_a1' w _).cell hg]; exact A1
            have E1 : w5.frozen? ⟨g, k * 2 + 1, none⟩ = false := by rw [hg5.kept.frozen (by simp; omega) hbu, (below_a1' w _).frozen hg]; exact F1
            have HO5 : Hid (OwnL poC 43 2 w5 0 (.slice va' vm' vc') (l ++ [(t, 1)])) := ho5
            have HK5 : Hid (KeptO (fun q => (Value.slice (some ⟨gu, 0, none⟩) (m + 1) uc).ownBlock = some q) w w5) := (KeptO.of (below_a1' w _)).trans hg5.kept
            have HM5 : Hid ((Value.slice va' vm' vc').ownBlock = (Value.slice (some ⟨gu, 0, none⟩) (m + 1) uc).ownBlock ∨ ∃ q, (Value.slice va' vm' vc').ownBlock = some q ∧ w.heap.size ≤ q) := by
              rcases hg5.moved with h | h
              · exact .inl h
              · exact .inr ⟨_, h, by simp⟩
            clear ho5 hg5 hvm' hbu A1 F1 P0 P1 G1
            go_wp2
            go_ret
            exact RCount.next HP.out HO.out HV.out HD.out HGD.out.2.2 HO5.out (by rw [HBU.out, if_neg HPT.out]) HK5.out HM5.out rfl
        · have hyx' : (y.toList == x.toList) = false := by
            rw [ByteArray.toList_eq, ByteArray.toList_eq]
            exact beq_eq_false_iff_ne.2 fun h => hyx (by rw [← strL_data y, ← strL_data x, h])
          have HH2 : Hid (∀ p, L[k]? = some p → lessB p.1 x = false ∧ p.1 ≠ x) := fun p hp => by rw [hx] at hp; injection hp with hp; rw [← hp]; exact ⟨hb, hyx⟩
          have hone : Hid (∀ y ∈ L, y.2.oneCell' = true) := HP.out.one
          have HRW : Hid ((kRow kEn).is false w (fun k => 0 ≤ k) [.slice (some ⟨g, 0, none⟩) n c] L) := own_en HO.out (by rw [← HN.out]; omega)
          go_wp2_with (at_builtin; go_loud (refine app_ens rfl _ _ rfl w.heap.size (.slice none 0 0) [] rfl (OwnL.nil _ _ _ _ _) (some ⟨g, 0, none⟩) k c _ (L.take k) rfl (row_take HRW.out hk) (fun y hy => hone.out y (List.mem_of_mem_take hy)) (by rw [List.length_take]; simp only [List.length_nil]; omega) (Nat.le_refl _) ?_))
          intro v1 w1 ho1 hb1 hg1
          replace ho1 : OwnL enC 85 2 w1 w.heap.size v1 (L.take k) := ho1
          obtain ⟨va1, vc1, hv1, _⟩ := ho1.form
          obtain ⟨vn1, hvn1⟩ : ∃ vn1, vn1 = (L.take k).length := ⟨_, rfl⟩
          rw [← hvn1] at hv1
          subst hv1
          have z1 : w.heap.size ≤ w1.heap.size := hb1.size
          have HO1 : Hid (OwnL enC 85 2 w1 w.heap.size (.slice va1 vn1 vc1) (L.take k)) := ho1
          have HB1 : Hid (Below w.heap.size w w1) := hb1
          have HL1 : Hid ((L.take k).length ≤ 2 ^ 20) := by show _ ≤ _; rw [List.length_take]; omega
          clear ho1 hb1 hg1 hvn1
          go_wp2_with (at_builtin; go_loud (refine app_en rfl _ _ rfl w.heap.size (.slice va1 vn1 vc1) (L.take k) rfl (OwnL.below (OwnL.below HO1.out (below_a1' _ _)) (below_a1' _ _)) _ (x, .slice (some ⟨w1.heap.size, 0, none⟩) 1 1) rfl rfl (by simp [go_sem]) (by simp [go_sem]) (by have := HL1.out; omega) (by simp; omega) ?_))
          intro v2 w2 ho2 hb2 hg2
          replace ho2 : OwnL enC 85 2 w2 w.heap.size v2 (L.take k ++ [(x, Value.slice (some ⟨w1.heap.size, 0, none⟩) 1 1)]) := ho2
          obtain ⟨va2, vc2, hv2, _⟩ := ho2.form
          obtain ⟨vn2, hvn2⟩ : ∃ vn2, vn2 = (L.take k ++ [(x, Value.slice (some ⟨w1.heap.size, 0, none⟩) 1 1)]).length := ⟨_, rfl⟩
          rw [← hvn2] at hv2
          subst hv2
          have HO2 : Hid (OwnL enC 85 2 w2 w.heap.size (.slice va2 vn2 vc2) (L.take k ++ [(x, Value.slice (some ⟨w1.heap.size, 0, none⟩) 1 1)])) := ho2
          have HB2 : Hid (Below w.heap.size w w2) := HB1.out.trans (((below_a1' w1 _).mono z1).trans (((below_a1' _ _).mono (by simp; omega)).trans hb2))
          have HG2 : Hid (OwnL poC 43 2 w2 0 (.slice (some ⟨w1.heap.size, 0, none⟩) 1 1) [(t, 1)] ∧ (Value.slice va2 vn2 vc2).ownBlock ≠ some w1.heap.size) := by
            have hne1 : (Value.slice va1 vn1 vc1).ownBlock ≠ some w1.heap.size := fun e => by have := HO1.out.blt e; omega
            refine ⟨((own_newP w1 t 1).below (below_a1' _ _)).stay fun q hq => hg2.kept.block q (by have hq' : w1.heap.size = q := (by injection hq); rw [← hq']; simp; omega) (fun e => hne1 (by have hq' : w1.heap.size = q := (by injection hq); rw [hq']; exact e)), fun e => ?_⟩
            rcases hg2.moved with h | h
            · exact hne1 (h ▸ e)
            · rw [h] at e; injection e with e; simp at e; omega
          have HL2 : Hid ((L.take k ++ [(x, Value.slice (some ⟨w1.heap.size, 0, none⟩) 1 1)]).length + (L.drop k).length ≤ 2 ^ 30) := by show _ ≤ _; rw [List.length_append, List.length_take, List.length_drop, ← HN.out, List.length_singleton]; omega
          have z2 : w.heap.size ≤ w2.heap.size := HB2.out.size
          clear ho2 hb2 hg2 hvn2
          go_wp2_with (at_builtin; go_loud (refine app_ens rfl _ _ rfl w.heap.size (.slice va2 vn2 vc2) _ rfl HO2.out (some ⟨g, k * 2, none⟩) (n - k) (c - k) _ (L.drop k) rfl (by have h := row_drop HRW.out hk; rw [show 0 + k * kEn.wd = k * 2 by show 0 + k * 2 = _; omega] at h; exact Kd.below (Kd.tight _ h (S' := fun q => q < w.heap.size) (fun q hq _ => hq)) HB2.out) (fun y hy => hone.out y (List.mem_of_mem_drop hy)) HL2.out z2 ?_))
          intro v3 w3 ho3 hb3 hg3
          have HO3 : Hid (OwnL enC 85 2 w3 w.heap.size v3 (L.take k ++ [(x, Value.slice (some ⟨w1.heap.size, 0, none⟩) 1 1)] ++ L.drop k)) := by show OwnL _ _ _ _ _ _ _; rw [List.append_assoc]; exact ho3
          have HB3 : Hid (Below w.heap.size w w3) := HB2.out.trans hb3
          have HG3 : Hid (OwnL poC 43 2 w3 0 (.slice (some ⟨w1.heap.size, 0, none⟩) 1 1) [(t, 1)] ∧ v3.ownBlock ≠ some w1.heap.size) := by
            obtain ⟨g1, g2⟩ := HG2.out
            refine ⟨g1.stay fun q hq => hg3.kept.block q (g1.blt hq) (fun e => g2 (by have hq' : w1.heap.size = q := (by injection hq); rw [hq']; exact e)), fun e => ?_⟩
            rcases hg3.moved with h | ⟨q, h, hq⟩
            · exact g2 (h ▸ e)
            · rw [h] at e; injection e with e; have := g1.blt (show (Value.slice (some ⟨w1.heap.size, 0, none⟩) 1 1).ownBlock = some w1.heap.size from rfl); omega
          clear ho3 hb3 hg3
          go_wp2
          go_ret
          exact RCount.new HP.out HI.out HH2.out z1 HO3.out HG3.out.1 HG3.out.2 HB3.out
    · have hkn : k = n := by omega
      subst hkn
      have i1 : ¬ (k : Int) < (k : Int) := by omega
      cases a with
      | some ad =>
        obtain ⟨g, rfl⟩ : ∃ g, ad = ⟨g, 0, none⟩ := by
          obtain ⟨_, ⟨e2, _⟩ | ⟨g, cap, cur, e, _⟩⟩ := HO.out
          · cases e2
          · injection e with e1
            injection e1 with e1
            exact ⟨g, e1⟩
        have HH2 : Hid (∀ p, L[k]? = some p → lessB p.1 x = false ∧ p.1 ≠ x) := fun p hp => by have := (List.getElem?_eq_some_iff.1 hp).1; rw [← HN.out] at this; omega
        have hone : Hid (∀ y ∈ L, y.2.oneCell' = true) := HP.out.one
        have HRW : Hid ((kRow kEn).is false w (fun k => 0 ≤ k) [.slice (some ⟨g, 0, none⟩) k c] L) := own_en HO.out (by rw [← HN.out]; omega)
        go_wp2_with (at_builtin; go_loud (refine app_ens rfl _ _ rfl w.heap.size (.slice none 0 0) [] rfl (OwnL.nil _ _ _ _ _) (some ⟨g, 0, none⟩) k c _ (L.take k) rfl (row_take HRW.out hk) (fun y hy => hone.out y (List.mem_of_mem_take hy)) (by rw [List.length_take]; simp only [List.length_nil]; omega) (Nat.le_refl _) ?_))
        intro v1 w1 ho1 hb1 hg1
        replace ho1 : OwnL enC 85 2 w1 w.heap.size v1 (L.take k) := ho1
        obtain ⟨va1, vc1, hv1, _⟩ := ho1.form
        obtain ⟨vn1, hvn1⟩ : ∃ vn1, vn1 = (L.take k).length := ⟨_, rfl⟩
        rw [← hvn1] at hv1
        subst hv1
        have z1 : w.heap.size ≤ w1.heap.size := hb1.size
        have HO1 : Hid (OwnL enC 85 2 w1 w.heap.size (.slice va1 vn1 vc1) (L.take k)) := ho1
        have HB1 : Hid (Below w.heap.size w w1) := hb1
        have HL1 : Hid ((L.take k).length ≤ 2 ^ 20) := by show _ ≤ _; rw [List.length_take]; omega
        clear ho1 hb1 hg1 hvn1
        go_wp2_with (at_builtin; go_loud (refine app_en rfl _ _ rfl w.heap.size (.slice va1 vn1 vc1) (L.take k) rfl (OwnL.below (OwnL.below HO1.out (below_a1' _ _)) (below_a1' _ _)) _ (x, .slice (some ⟨w1.heap.size, 0, none⟩) 1 1) rfl rfl (by simp [go_sem]) (by simp [go_sem]) (by have := HL1.out; omega) (by simp; omega) ?_))
        intro v2 w2 ho2 hb2 hg2
        replace ho2 : OwnL enC 85 2 w2 w.heap.size v2 (L.take k ++ [(x, Value.slice (some ⟨w1.heap.size, 0, none⟩) 1 1)]) := ho2
        obtain ⟨va2, vc2, hv2, _⟩ := ho2.form
        obtain ⟨vn2, hvn2⟩ : ∃ vn2, vn2 = (L.take k ++ [(x, Value.slice (some ⟨w1.heap.size, 0, none⟩) 1 1)]).length := ⟨_, rfl⟩
        rw [← hvn2] at hv2
        subst hv2
        have HO2 : Hid (OwnL enC 85 2 w2 w.heap.size (.slice va2 vn2 vc2) (L.take k ++ [(x, Value.slice (some ⟨w1.heap.size, 0, none⟩) 1 1)])) := ho2
        have HB2 : Hid (Below w.heap.size w w2) := HB1.out.trans (((below_a1' w1 _).mono z1).trans (((below_a1' _ _).mono (by simp; omega)).trans hb2))
        have HG2 : Hid (OwnL poC 43 2 w2 0 (.slice (some ⟨w1.heap.size, 0, none⟩) 1 1) [(t, 1)] ∧ (Value.slice va2 vn2 vc2).ownBlock ≠ some w1.heap.size) := by
          have hne1 : (Value.slice va1 vn1 vc1).ownBlock ≠ some w1.heap.size := fun e => by have := HO1.out.blt e; omega
          refine ⟨((own_newP w1 t 1).below (below_a1' _ _)).stay fun q hq => hg2.kept.block q (by have hq' : w1.heap.size = q := (by injection hq); rw [← hq']; simp; omega) (fun e => hne1 (by have hq' : w1.heap.size = q := (by injection hq); rw [hq']; exact e)), fun e => ?_⟩
          rcases hg2.moved with h | h
          · exact hne1 (h ▸ e)
          · rw [h] at e; injection e with e; simp at e; omega
        have HL2 : Hid ((L.take k ++ [(x, Value.slice (some ⟨w1.heap.size, 0, none⟩) 1 1)]).length + (L.drop k).length ≤ 2 ^ 30) := by show _ ≤ _; rw [List.length_append, List.length_take, List.length_drop, ← HN.out, List.length_singleton]; omega
        have z2 : w.heap.size ≤ w2.heap.size := HB2.out.size
        clear ho2 hb2 hg2 hvn2
        have HLD : Hid (L.drop k = []) := List.drop_eq_nil_of_le (by rw [← HN.out]; omega)
        go_wp2_with (at_builtin; go_loud (refine app_ens rfl _ _ rfl w.heap.size (.slice va2 vn2 vc2) _ rfl HO2.out _ 0 _ (fun _ => True) (L.drop k) rfl (by rw [HLD.out]; exact row_nil _ _ _ _ _ _) (fun y hy => hone.out y (List.mem_of_mem_drop hy)) HL2.out z2 ?_))
        all_goals
          intro v3 w3 ho3 hb3 hg3
          have HO3 : Hid (OwnL enC 85 2 w3 w.heap.size v3 (L.take k ++ [(x, Value.slice (some ⟨w1.heap.size, 0, none⟩) 1 1)] ++ L.drop k)) := by show OwnL _ _ _ _ _ _ _; rw [List.append_assoc]; exact ho3
          have HB3 : Hid (Below w.heap.size w w3) := HB2.out.trans hb3
          have HG3 : Hid (OwnL poC 43 2 w3 0 (.slice (some ⟨w1.heap.size, 0, none⟩) 1 1) [(t, 1)] ∧ v3.ownBlock ≠ some w1.heap.size) := by
            obtain ⟨g1, g2⟩ := HG2.out
            refine ⟨g1.stay fun q hq => hg3.kept.block q (g1.blt hq) (fun e => g2 (by have hq' : w1.heap.size = q := (by injection hq); rw [hq']; exact e)), fun e => ?_⟩
            rcases hg3.moved with h | ⟨q, h, hq⟩
            · exact g2 (h ▸ e)
            · rw [h] at e; injection e with e; have := g1.blt (show (Value.slice (some ⟨w1.heap.size, 0, none⟩) 1 1).ownBlock = some w1.heap.size from rfl); omega
          clear ho3 hb3 hg3
          go_wp2
          go_ret
          exact RCount.new HP.out HI.out HH2.out z1 HO3.out HG3.out.1 HG3.out.2 HB3.out
      | none =>
        have hk0 : k = 0 ∧ c = 0 := by
          obtain ⟨_, ⟨e2, _⟩ | ⟨g, cap, cur, e, _⟩⟩ := HO.out
          · injection e2 with _ e2 e3
            exact ⟨e2, e3⟩
          · cases e
        obtain ⟨rfl, rfl⟩ := hk0
        have HL0 : Hid (L = []) := List.eq_nil_of_length_eq_zero HN.out.symm
        have HH2 : Hid (∀ p, L[0]? = some p → lessB p.1 x = false ∧ p.1 ≠ x) := fun p hp => by have := (List.getElem?_eq_some_iff.1 hp).1; rw [← HN.out] at this; omega
        have hone : Hid (∀ y ∈ L, y.2.oneCell' = true) := HP.out.one
        have HRW : Hid ((kRow kEn).is false w (fun q => 0 ≤ q) [.slice none 0 0] L) := own_en HO.out (by rw [← HN.out]; omega)
        go_wp2_with (at_builtin; go_loud (refine app_ens rfl _ _ rfl w.heap.size (.slice none 0 0) [] rfl (OwnL.nil _ _ _ _ _) none 0 0 _ (L.take 0) rfl (by rw [HL0.out]; exact row_nil _ _ _ (fun _ => True) _ _) (fun y hy => hone.out y (List.mem_of_mem_take hy)) (by rw [List.length_take]; simp only [List.length_nil]; omega) (Nat.le_refl _) ?_))
        intro v1 w1 ho1 hb1 hg1
        replace ho1 : OwnL enC 85 2 w1 w.heap.size v1 (L.take 0) := ho1
        obtain ⟨va1, vc1, hv1, _⟩ := ho1.form
        obtain ⟨vn1, hvn1⟩ : ∃ vn1, vn1 = (L.take 0).length := ⟨_, rfl⟩
        rw [← hvn1] at hv1
        subst hv1
        have z1 : w.heap.size ≤ w1.heap.size := hb1.size
        have HO1 : Hid (OwnL enC 85 2 w1 w.heap.size (.slice va1 vn1 vc1) (L.take 0)) := ho1
        have HB1 : Hid (Below w.heap.size w w1) := hb1
        have HL1 : Hid ((L.take 0).length ≤ 2 ^ 20) := by show _ ≤ _; rw [List.length_take]; omega
        clear ho1 hb1 hg1 hvn1
        go_wp2_with (at_builtin; go_loud (refine app_en rfl _ _ rfl w.heap.size (.slice va1 vn1 vc1) (L.take 0) rfl (OwnL.below (OwnL.below HO1.out (below_a1' _ _)) (below_a1' _ _)) _ (x, .slice (some ⟨w1.heap.size, 0, none⟩) 1 1) rfl rfl (by simp [go_sem]) (by simp [go_sem]) (by have := HL1.out; omega) (by simp; omega) ?_))
        intro v2 w2 ho2 hb2 hg2
        replace ho2 : OwnL enC 85 2 w2 w.heap.size v2 (L.take 0 ++ [(x, Value.slice (some ⟨w1.heap.size, 0, none⟩) 1 1)]) := ho2
        obtain ⟨va2, vc2, hv2, _⟩ := ho2.form
        obtain ⟨vn2, hvn2⟩ : ∃ vn2, vn2 = (L.take 0 ++ [(x, Value.slice (some ⟨w1.heap.size, 0, none⟩) 1 1)]).length := ⟨_, rfl⟩
        rw [← hvn2] at hv2
        subst hv2
        have HO2 : Hid (OwnL enC 85 2 w2 w.heap.size (.slice va2 vn2 vc2) (L.take 0 ++ [(x, Value.slice (some ⟨w1.heap.size, 0, none⟩) 1 1)])) := ho2
        have HB2 : Hid (Below w.heap.size w w2) := HB1.out.trans (((below_a1' w1 _).mono z1).trans (((below_a1' _ _).mono (by simp; omega)).trans hb2))
        have HG2 : Hid (OwnL poC 43 2 w2 0 (.slice (some ⟨w1.heap.size, 0, none⟩) 1 1) [(t, 1)] ∧ (Value.slice va2 vn2 vc2).ownBlock ≠ some w1.heap.size) := by
          have hne1 : (Value.slice va1 vn1 vc1).ownBlock ≠ some w1.heap.size := fun e => by have := HO1.out.blt e; omega
          refine ⟨((own_newP w1 t 1).below (below_a1' _ _)).stay fun q hq => hg2.kept.block q (by have hq' : w1.heap.size = q := (by injection hq); rw [← hq']; simp; omega) (fun e => hne1 (by have hq' : w1.heap.size = q := (by injection hq); rw [hq']; exact e)), fun e => ?_⟩
          rcases hg2.moved with h | h
          · exact hne1 (h ▸ e)
          · rw [h] at e; injection e with e; simp at e; omega
        have HL2 : Hid ((L.take 0 ++ [(x, Value.slice (some ⟨w1.heap.size, 0, none⟩) 1 1)]).length + (L.drop 0).length ≤ 2 ^ 30) := by show _ ≤ _; rw [List.length_append, List.length_take, List.length_drop, ← HN.out, List.length_singleton]; omega
        have z2 : w.heap.size ≤ w2.heap.size := HB2.out.size
        clear ho2 hb2 hg2 hvn2
        go_wp2_with (at_builtin; go_loud (refine app_ens rfl _ _ rfl w.heap.size (.slice va2 vn2 vc2) _ rfl HO2.out none 0 0 _ (L.drop 0) rfl (by rw [HL0.out]; exact row_nil _ _ _ (fun _ => True) _ _) (fun y hy => hone.out y (List.mem_of_mem_drop hy)) HL2.out z2 ?_))
        intro v3 w3 ho3 hb3 hg3
        have HO3 : Hid (OwnL enC 85 2 w3 w.heap.size v3 (L.take 0 ++ [(x, Value.slice (some ⟨w1.heap.size, 0, none⟩) 1 1)] ++ L.drop 0)) := by show OwnL _ _ _ _ _ _ _; rw [List.append_assoc]; exact ho3
        have HB3 : Hid (Below w.heap.size w w3) := HB2.out.trans hb3
        have HG3 : Hid (OwnL poC 43 2 w3 0 (.slice (some ⟨w1.heap.size, 0, none⟩) 1 1) [(t, 1)] ∧ v3.ownBlock ≠ some w1.heap.size) := by
          obtain ⟨g1, g2⟩ := HG2.out
          refine ⟨g1.stay fun q hq => hg3.kept.block q (g1.blt hq) (fun e => g2 (by have hq' : w1.heap.size = q := (by injection hq); rw [hq']; exact e)), fun e => ?_⟩
          rcases hg3.moved with h | ⟨q, h, hq⟩
          · exact g2 (h ▸ e)
          · rw [h] at e; injection e with e; have := g1.blt (show (Value.slice (some ⟨w1.heap.size, 0, none⟩) 1 1).ownBlock = some w1.heap.size from rfl); omega
        clear ho3 hb3 hg3
        go_wp2
        go_ret
        exact RCount.new HP.out HI.out HH2.out z1 HO3.out HG3.out.1 HG3.out.2 HB3.out
end Go.Proofs.Ytikgcgfigcolmaa
