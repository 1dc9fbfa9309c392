/- Bytes read as postings: the program's UnpackPostings. No condition. -/
import Derived.Test.YtcnlmpdpimhcbaaUpI
import Derived.Test.YtcnlmpdpimhcbaaAp
namespace Go.Proofs.Ytcnlmpdpimhcbaa
open Go.RowKit
set_option linter.unusedVariables false

theorem strL_empU (acc : List UInt8) : (strL acc).toList.isEmpty = acc.isEmpty := by
  rw [ByteArray.toList_eq]
  simp [strL]
theorem infoPostA : (Try.prog.info? 84).map (fun i => (i.zero, i.size, i.bytes)) = some (some (.agg #[.int .i64 0, .int .i64 0]), 2, 16) := by kernel_rfl
def poC (y : DPosting) : List Value := [.int .i64 y.1, .int .i64 y.2]
/-- append(out, p) of postings. -/
theorem app_post {w : World} {ops : Array Oper} {rest : List Oper} {o : Oper} {a : Act} {Q : Exit → Act → World → Prop} (hgd : o.guard = none) (s x : Operand)
    (ho : o.op = .call { callee := .builtin .append, args := #[s, x], argTypes := #[23, 23] })
    (B : Nat) (v : Value) (l : List DPosting) (hs : a.eval s = v) (hown : OwnL poC 84 2 w B v l) (b : Nat) (y : DPosting) (hx : a.eval x = .slice (some ⟨b, 0, none⟩) 1 1) (hc : w.cell? ⟨b, 0, none⟩ = some (.int .i64 y.1)) (hc1 : w.cell? ⟨b, 1, none⟩ = some (.int .i64 y.2))
    (hL : l.length < 2 ^ 30) (hbase : B ≤ w.heap.size)
    (h : ∀ v' w', OwnL poC 84 2 w' B v' (l ++ [y]) → Below B w w' → Grew w w' v v' → wpList Try.prog ops Q rest (a.put o.dst v') w') : wpList Try.prog ops Q (o :: rest) a w := by
  obtain ⟨i0, hi, hz0, hz1, hz2⟩ := info_parts infoPostA
  exact wpList_app1 poC hgd s x 23 ho B 84 i0 _ 2 16 Try.underlying23 hi hz0 hz1 hz2 rfl (by decide) (by decide) v l hs hown b y hx rfl (fun u hu => by
    simp [poC] at hu
    rcases hu with rfl | rfl <;> rfl) (fun j u hj => by
    match j, hj with
    | 0, hj => obtain rfl : Value.int .i64 y.1 = u := by simpa [poC] using hj
               exact hc
    | 1, hj => obtain rfl : Value.int .i64 y.2 = u := by simpa [poC] using hj
               exact hc1
    | j + 2, hj => simp [poC] at hj) hL hbase h
theorem cell_b1 (w : World) (u v : Value) (T : TypeId) : (w.alloc (.cells #[u, v] T)).cell? ⟨w.heap.size, 0, none⟩ = some u ∧ (w.alloc (.cells #[u, v] T)).cell? ⟨w.heap.size, 1, none⟩ = some v := by simp [World.cell?_alloc_new]
def smallP (l : List DPosting) : Prop := ∀ x ∈ l, -1 ≤ x.1 ∧ x.1 ≤ 2 ^ 40 ∧ 0 ≤ x.2 ∧ x.2 ≤ 2 ^ 40
theorem smallP.snoc {l : List DPosting} {a b : Int} (h : smallP l) (h1 : -1 ≤ a) (h2 : a ≤ 2 ^ 40) (h3 : 0 ≤ b) (h4 : b ≤ 2 ^ 40) : smallP (l ++ [(a, b)]) := fun x hx => by
  rcases List.mem_append.1 hx with h' | h'
  · exact h x h'
  · obtain rfl := List.mem_singleton.1 h'
    exact ⟨h1, h2, h3, h4⟩
theorem post_is {w : World} {B : Nat} {a : Option Addr} {n c : Nat} {L : List DPosting} (h : OwnL poC 84 2 w B (.slice a n c) L) (hl : L.length ≤ 2 ^ 30) (hz : smallP L) : (kRow kPosting).is true w (fun k => B ≤ k) [.slice a n c] L :=
  own_kRow (K := kPosting) (fun _ => rfl) h (by unfold maxLen; omega) (fun x hx W S => by
    obtain ⟨h1, h2, h3, h4⟩ := hz x hx
    obtain ⟨x0, x1⟩ := x
    exact kPosting_shut ⟨by omega, by omega⟩ ⟨by omega, by omega⟩)

/-- What UnpackPostings answers. -/
def RUnpackPostings (x0 : ByteArray) (w : World) (e : Ending) (w' : World) : Prop := ∃ (a0 : Option Addr) (n0 c0 : Nat) (T0 : Nat → Prop), e = .returned (.tuple #[.slice a0 n0 c0, .bool (fUnpackPostings x0).2]) ∧ (kRow kPosting).is true w' T0 [.slice a0 n0 c0] (fUnpackPostings x0).1 ∧ (∀ k, T0 k → w.heap.size ≤ k) ∧ sums kPosting.cnt (fUnpackPostings x0).1 ≤ 2 ^ 26 ∧ Below w.heap.size w w'
theorem RUnpack_no {s : ByteArray} {w w' : World} (h : fUnpackPostings s = ([], false)) (hb : Below w.heap.size w w') : RUnpackPostings s w (.returned (.tuple #[.slice none 0 0, .bool false])) w' := by
  unfold RUnpackPostings
  rw [h]
  exact ⟨none, 0, 0, fun _ => False, rfl, row_nil _ _ _ _ _ _, fun k hk => hk.elim, by simp [sums], hb⟩
theorem cnt_posts (l : List DPosting) : sums kPosting.cnt l = l.length * 2 := sums_const 2 l

theorem parseU_step (f cnt : Nat) (last : Int) (l : List UInt8) (hf : l.length ≤ f) (hne : l ≠ []) : ∃ g, parseU f cnt last l = (match rd2 l with
    | none => none
    | some (a, r) => match rd2 r with
      | none => none
      | some (m, r') => if cnt = 0 then none else (parseU g (cnt - 1) (last + a + 1) r').map fun q => (last + a + 1, m) :: q) ∧ l.length ≤ g + 1 := by
  cases l with
  | nil => exact absurd rfl hne
  | cons b t =>
    cases f with
    | zero => simp at hf
    | succ g => exact ⟨g, by rw [parseU]; rfl, hf⟩

set_option maxRecDepth 100000 in
set_option maxHeartbeats 4000000 in
theorem implUnpackPostings_k (x0 : ByteArray) (w : World) (h0 : x0.size ≤ 2 ^ 20) :
    Calls Try.prog 17 #[.string x0] w (RUnpackPostings x0 w) := by
  obtain ⟨ls, hls⟩ : ∃ ls, ls = x0.data.toList := ⟨_, rfl⟩
  have hx : x0 = strL ls := by rw [hls, strL_data]
  obtain ⟨G, hG⟩ : ∃ G, G = parseU x0.size 200 (-1) ls := ⟨_, rfl⟩
  have HFN : Hid (G = none → fUnpackPostings x0 = ([], false)) := fun h => by unfold fUnpackPostings; rw [← hls, ← hG, h]
  have HFS : Hid (∀ l, G = some l → fUnpackPostings x0 = if postOk 10001 (-1) l = true then (l, true) else ([], false)) := fun l h => by unfold fUnpackPostings; rw [← hls, ← hG, h]
  have hlen : ls.length = x0.size := by rw [hls]; simp
  have hl20 : ls.length ≤ 2 ^ 20 := by omega
  have HG : Hid (G = parseU x0.size 200 (-1) ls) := hG
  have HLE : Hid (ls.length = x0.size) := hlen
  have hs0 : Calls Try.prog 17 #[.string (strL ls)] w (RUnpackPostings x0 w) → Calls Try.prog 17 #[.string x0] w (RUnpackPostings x0 w) := fun h => by
    have e : (Value.string x0) = .string (strL ls) := by rw [← hx]
    rw [e]
    exact h
  apply hs0
  clear hs0 hls hG hlen hx
  go_enter Try.func17, Try.ntmps17
  go_wp2_with fail
  go_loopw [4, 5, 6] (fun ov lv sv wr => ∃ (L : List DPosting) (last : Int) (r : List UInt8) (f : Nat), sv = .string (strL r) ∧ lv = .int .i64 last ∧ r.length ≤ f ∧ r.length ≤ 2 ^ 20 ∧ L.length ≤ 200 ∧ -1 ≤ last ∧ last ≤ 16384 * (L.length : Int) ∧ Hid ((parseU f (200 - L.length) last r).map (fun q => L ++ q) = G) ∧ Hid (smallP L) ∧ Hid (OwnL poC 84 2 wr w.heap.size ov L) ∧ Below w.heap.size w wr) (fun _ _ sv _ => match sv with | .string s => s.size | _ => 0)
  case atStart => exact ⟨[], -1, ls, x0.size, rfl, rfl, by rw [HLE.out]; exact Nat.le_refl _, hl20, by simp, by omega, by simp, by show _ = _; rw [HG.out]; simp, fun x hx => by simp at hx, OwnL.nil _ _ _ _ _, Below.refl _ _⟩
  case round =>
    obtain ⟨L, last, r, f, rfl, rfl, hrf, hr20, hL, l0, l1, HI, HSM, HO, hnx⟩ := hrel
    obtain ⟨oa, oc, hov, _⟩ := HO.out.form
    subst hov
    obtain ⟨n, hn⟩ : ∃ n, n = L.length := ⟨_, rfl⟩
    have HN : Hid (n = L.length) := hn
    rw [← hn] at HO hL l1 ⊢
    clear hn
    have zw := hnx.size
    by_cases hre : r = []
    · have t0 : (strL r).toList.isEmpty = true := by rw [strL_empU, hre]; rfl
      have HE : Hid (G = some L) := by have := HI.out; rw [hre, parseU.eq_def] at this; simp at this; exact this.symm
      clear HI hre
      go_wp2_with fail
      refine (arePostings_k L oa n oc (fun k => w.heap.size ≤ k) 10001 _ (Kd.read _ (post_is HO.out (by rw [← HN.out]; omega) HSM.out))).mono ?_
      rintro e w1 ⟨rfl, hb1⟩
      have HB1 : Hid (Below w.heap.size w w1) := hnx.trans (hb1.mono zw)
      have HO1 : Hid (OwnL poC 84 2 w1 w.heap.size (.slice oa n oc) L) := OwnL.below HO.out hb1
      clear hb1
      cases ho : postOk 10001 (-1) L with
      | false =>
        have HR : Hid (fUnpackPostings x0 = ([], false)) := by have := HFS.out L HE.out; rw [ho] at this; exact this
        clear ho
        go_wp2
        refine bodyPost_ret (v := .tuple #[.slice none 0 0, .bool false]) (by simp [results, Try.results17, go_sem]) rfl ?_
        exact RUnpack_no HR.out HB1.out
      | true =>
        have HR : Hid (fUnpackPostings x0 = (L, true)) := by have := HFS.out L HE.out; rw [ho] at this; exact this
        clear ho
        go_wp2
        refine bodyPost_ret (v := .tuple #[.slice oa n oc, .bool true]) (by simp [results, Try.results17, go_sem]) rfl ?_
        unfold RUnpackPostings
        rw [HR.out]
        exact ⟨oa, n, oc, _, rfl, post_is HO1.out (by rw [← HN.out]; omega) HSM.out, fun k hk => hk, by rw [cnt_posts]; show L.length * 2 ≤ _; rw [← HN.out]; omega, HB1.out⟩
    · have t0 : (strL r).toList.isEmpty = false := by rw [strL_empU]; simpa using hre
      obtain ⟨g, hg1, hg2⟩ := parseU_step f (200 - L.length) last r hrf hre
      have HP : Hid _ := hg1
      clear hg1 hre
      go_wp2_with fail
      refine (readSevens_k r _ hr20).mono ?_
      rintro e w1 ⟨hq1, hb1⟩
      have HB1 : Hid (Below w.heap.size w w1) := hnx.trans (hb1.mono zw)
      have HO1 : Hid (OwnL poC 84 2 w1 w.heap.size (.slice oa n oc) L) := OwnL.below HO.out hb1
      clear hb1 HO hnx
      rcases hq1 with ⟨a, r1, hd, rfl⟩ | ⟨hd, a, r1, hr1, rfl⟩
      · obtain ⟨a0, a1, a2⟩ := rd2_bounds hd
        have HP1 : Hid (parseU f (200 - L.length) last r = match rd2 r1 with
            | none => none
            | some (m, r') => if 200 - L.length = 0 then none else (parseU g (200 - L.length - 1) (last + a + 1) r').map fun q => (last + a + 1, m) :: q) := by
          have := HP.out
          rw [hd] at this
          exact this
        clear hd HP
        go_wp2_with fail
        refine (readSevens_k r1 _ (by omega)).mono ?_
        rintro e w2 ⟨hq2, hb2⟩
        have HB2 : Hid (Below w.heap.size w w2) := HB1.out.trans (hb2.mono HB1.out.size)
        have HO2 : Hid (OwnL poC 84 2 w2 w.heap.size (.slice oa n oc) L) := OwnL.below HO1.out hb2
        have zw2 : w.heap.size ≤ w2.heap.size := HB2.out.size
        clear hb2 HO1 HB1
        rcases hq2 with ⟨m, r2, hd2, rfl⟩ | ⟨hd2, m, r2, hr2, rfl⟩
        · obtain ⟨m0, m1, m2⟩ := rd2_bounds hd2
          have HP2 : Hid (parseU f (200 - L.length) last r = if 200 - L.length = 0 then none else (parseU g (200 - L.length - 1) (last + a + 1) r2).map fun q => (last + a + 1, m) :: q) := by
            have := HP1.out
            rw [hd2] at this
            exact this
          clear hd2 HP1
          by_cases h200 : n = 200
          · have HNO : Hid (fUnpackPostings x0 = ([], false)) := HFN.out (by have := HI.out; rw [HP2.out, if_pos (by rw [← HN.out]; omega)] at this; exact this.symm)
            clear HI HP2
            subst h200
            go_wp2
            refine bodyPost_ret (v := .tuple #[.slice none 0 0, .bool false]) (by simp [results, Try.results17, go_sem]) rfl ?_
            exact RUnpack_no HNO.out HB2.out
          · have HI2 : Hid ((parseU g (200 - (L ++ [(last + a + 1, m)]).length) (last + a + 1) r2).map (fun q => (L ++ [(last + a + 1, m)]) ++ q) = G) := by
              have := HI.out
              rw [HP2.out, if_neg (by rw [← HN.out]; omega), Option.map_map] at this
              show _ = _
              rw [← this, List.length_append, show 200 - (L.length + [(last + a + 1, m)].length) = 200 - L.length - 1 by simp; omega]
              congr 1
              funext q
              simp
            have h200' : ((n : Int) == 200) = false := by rw [beq_eq_false_iff_ne]; omega
            have HSM2 : Hid (smallP (L ++ [(last + a + 1, m)])) := HSM.out.snoc (by omega) (by omega) (by omega) (by omega)
            clear HI HP2
            have e1 : last + (a + 1) = last + a + 1 := by omega
            go_wp2_with (at_builtin; refine app_post rfl _ _ rfl w.heap.size _ L rfl (OwnL.below HO2.out (below_a1' _ _)) _ (last + a + 1, m) rfl (cell_b1 _ _ _ _).1 (cell_b1 _ _ _ _).2 (by rw [← HN.out]; omega) (by simp; omega) ?_)
            intro v3 w3 ho3 hb3 hz3
            have HO3 : Hid (OwnL poC 84 2 w3 w.heap.size v3 (L ++ [(last + a + 1, m)])) := ho3
            have HB3 : Hid (Below w.heap.size w w3) := (HB2.out.alloc (by omega) _).trans hb3
            clear ho3 hb3 hz3
            go_wp2
            go_roundw
            case rel => exact ⟨L ++ [(last + a + 1, m)], last + a + 1, r2, g, rfl, rfl, by omega, by omega, by rw [List.length_append, ← HN.out]; simp; omega, by omega, by rw [List.length_append, ← HN.out]; simp; omega, HI2, HSM2, HO3, HB3.out⟩
            case measure => simp only [strL_size]; omega
        · have HNO : Hid (fUnpackPostings x0 = ([], false)) := HFN.out (by have := HI.out; rw [HP1.out, hd2] at this; exact this.symm)
          clear hd2 HI HP1
          go_wp2
          refine bodyPost_ret (v := .tuple #[.slice none 0 0, .bool false]) (by simp [results, Try.results17, go_sem]) rfl ?_
          exact RUnpack_no HNO.out HB2.out
      · have HNO : Hid (fUnpackPostings x0 = ([], false)) := HFN.out (by have := HI.out; rw [HP.out, hd] at this; exact this.symm)
        clear hd HI HP
        go_wp2_with fail
        refine (readSevens_k r1 _ (by omega)).mono ?_
        rintro e w2 ⟨hq2, hb2⟩
        have HB2 : Hid (Below w.heap.size w w2) := HB1.out.trans (hb2.mono HB1.out.size)
        clear hb2
        rcases hq2 with ⟨a2, r2, hd2, rfl⟩ | ⟨hd2, a2, r2, hr2, rfl⟩
        · go_wp2
          refine bodyPost_ret (v := .tuple #[.slice none 0 0, .bool false]) (by simp [results, Try.results17, go_sem]) rfl ?_
          exact RUnpack_no HNO.out HB2.out
        · go_wp2
          refine bodyPost_ret (v := .tuple #[.slice none 0 0, .bool false]) (by simp [results, Try.results17, go_sem]) rfl ?_
          exact RUnpack_no HNO.out HB2.out
end Go.Proofs.Ytcnlmpdpimhcbaa
