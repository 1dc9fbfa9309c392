/- FnExactIsClean: for every value the law answers true and its argument reads as it did; the library's table of powers of ten and the sentinel of nulls in maps are tied to the text by the card. No other condition. -/
import Derived.Test.YteeomicblaljnaaDoorFrame
import Derived.Test.YteeomicblaljnaaDoorCleanF
import Derived.Test.YteeomicblaljnaaDoorCleanLaw
namespace Go.Proofs.YteeomicblaljnaaDoor
open Go.ChangeShapes Go.WideShapes Go.ChangeAt Go.RowKit
set_option linter.unusedVariables false

set_option maxRecDepth 100000 in
/-- WHAT THE WALK GIVES, for every argument and every world that holds the tables. -/
theorem isclean_contract (H : Type) (enc : TypeId × Value → H) (W : World) (base : Nat) (args : Array Value) (ds gs : List (DataW H)) (before : List MemPlace)
    (hval : ∀ (j : Nat) t v, Tryd.f3.params[j]? = some t → args[j]? = some v → Value.okWide Tryd.prog W .any base t v)
    (hW : DataW.Whole enc Tryd.prog Tryd.f3.params.toList Rows.fnExactIsCleanSpec.vars false W args.toList ds gs before) (hL : laidMetH Tryd.prog Rows.fnExactIsCleanRow.laid W) :
    Calls Tryd.prog 3 args W fun e W' => ∃ v, e = .returned v ∧ Rows.fnExactIsCleanSpec.post enc Tryd.prog Tryd.f3 false true false false W args v W' := by
  have hW' := hW
  obtain ⟨p, q, hA0, hV, rfl, hfz, hnd⟩ := hW
  have hA : DataW.TrodAll enc Tryd.prog W 0 (fun _ => true) true Tryd.f3.params.toList args.toList ds p := hA0
  rw [Tryd.params3] at hA hval
  obtain ⟨v0, vs0, d0, ds0, p0, q0, hargs, rfl, rfl, h0, r0⟩ := trodAll_cons hA
  obtain ⟨rfl, rfl, rfl⟩ := trodAll_nil r0
  obtain rfl : args = #[v0] := by cases args; simp_all
  obtain ⟨g1, rfl⟩ : ∃ g1, gs = [g1] := by
    cases gs with
    | nil => exact hV.elim
    | cons g gs =>
      cases gs with
      | nil => exact ⟨g, rfl⟩
      | cons g' gs =>
        obtain ⟨_, _, _, _, _, _, _, _, _, _, hs, _⟩ := hV
        exact hs.elim
  have k0 := h0
  have lt0 : ∀ x ∈ p0, x.block < W.heap.size := by obtain ⟨m, hm⟩ := k0; exact DataW.trod_lt m _ _ _ hm
  obtain ⟨a, n, c, N, rfl, hn, harg, hz⟩ := open_value (hval 0 24 v0 rfl rfl) h0
  clear hA0
  refine (isClean_law a c n N W hn harg hz (table (show laidMet Tryd.prog Rows.fnExactIsCleanRow.laid W from hL)) (err_of (show laidMet Tryd.prog Rows.fnExactIsCleanRow.laid W from hL))).mono fun e W' ⟨he, bel⟩ => ?_
  subst he
  exact ⟨_, rfl, _, _, _, [], _, _, hW', trodAll_mk1 (shut_bool Tryd.underlying4 _), (trodAll_cons_mk (Below.trod laidOut (by kernel_rfl) (of_decide_eq_true (by kernel_rfl)) k0 bel lt0) trodAll_mk0), Below.trodVars laidOut bel (by kernel_rfl) hV, bel.frame _, fun h => by cases h⟩

theorem isclean_reads (os : Os) {H : Type} (enc : TypeId × Value → H) : ∃ x, DataW.whole enc Tryd.prog ((layClean os).forCall (fun _ _ => 0) ⟨#[], #[.agg #[.slice none 0 0]], []⟩).memory Tryd.f3.params.toList Rows.fnExactIsCleanSpec.vars false #[Value.agg #[.slice none 0 0]].toList 8 = some x :=
  ⟨([.agg [.nil]], [.held (enc (141, .pointer (some ⟨low, 0, none⟩)))], MemPlace.row ⟨0, 0, none⟩ 1), by kernel_rfl⟩
theorem isclean_laid (os : Os) : laidMet Tryd.prog Rows.fnExactIsCleanRow.laid ((layClean os).forCall (fun _ _ => 0) ⟨#[], #[.agg #[.slice none 0 0]], []⟩).memory :=
  laidMet_of_run' 8 (by kernel_rfl) (by kernel_rfl)

set_option maxRecDepth 100000 in
theorem isclean_lifted (os : Os) (started : os.Started) (H : Type) (enc : TypeId × Value → H) (F : Stop.Interp) :
    ReturnsInHanded {} Tryd.checked os 3 .any ((OpenSpec.ofChange Rows.fnExactIsCleanSpec).preRow enc Tryd.prog Tryd.f3 Rows.fnExactIsCleanRow.domain false Rows.fnExactIsCleanRow.laid) (((OpenSpec.ofChange Rows.fnExactIsCleanSpec).at F).post enc Tryd.prog Tryd.f3 false true false false) := by
  obtain ⟨places, hx⟩ := isclean_reads os enc
  refine returnsInHanded_of_row (C := Tryd.checked) (s := OpenSpec.ofChange Rows.fnExactIsCleanSpec) own started (by kernel_rfl) Tryd.func3
    (witness_row_at (enc := enc) (C := Tryd.checked) false (layClean os) #[.agg #[.slice none 0 0]] rfl (by kernel_rfl) (by kernel_rfl) (by kernel_rfl)
      (OpenSpec.preRow_of_cond 8 hx (by kernel_rfl) (fun k hk => by cases hk) (by kernel_rfl) (isclean_laid os))) ?_
  intro W base args ds gs before hval hW _ _ _ hL _ _
  exact isclean_contract H enc W base args ds gs before hval hW hL

theorem isclean_said : Rows.FnExactIsCleanSaid :=
  OpenClaim.holds_of_cond 3 Tryd.f3 rfl rfl rfl rfl rfl rfl rfl ⟨rfl, rfl, rfl, rfl, rfl⟩ rfl rfl rfl rfl rfl (by kernel_rfl) Tryd.func3 (by kernel_rfl)
    (of_decide_eq_true (by kernel_rfl)) (by unfold Func.isWrapper; first | (rw [if_pos (by decide +kernel)]; kernel_rfl) | (rw [if_neg (by decide +kernel)]; exact ⟨rfl, rfl⟩))
    (fun os started H enc _ F => by rw [OpenClaim.pre_eq_preRow]; exact isclean_lifted os started H enc F)

theorem isclean_plain (f : FuncId) (fn : Func) (hf : Tryd.pinned.checked.prog.funcNamed "loop.example/g00274/laws.FnExactIsClean" = some f) (hfn : Tryd.pinned.checked.prog.funcs[f]? = some fn) :
    true = Tryd.pinned.checked.prog.looks [] ∧ ∀ (j : Nat) t, fn.params[j]? = some t → Tryd.pinned.checked.prog.wantsStandIn t = false := by
  obtain rfl : f = 3 := Option.some.inj ((show Tryd.prog.funcNamed "loop.example/g00274/laws.FnExactIsClean" = some 3 by kernel_rfl).symm.trans hf) |>.symm
  obtain rfl : fn = Tryd.f3 := (Option.some.inj (Tryd.func3.symm.trans hfn)).symm
  refine ⟨by kernel_rfl, fun j t ht => ?_⟩
  rw [Tryd.params3] at ht
  obtain rfl : t = 24 := by simpa using Array.mem_of_getElem? ht
  exact (show Tryd.prog.wantsStandIn 24 = false by kernel_rfl)

/-- THE CARD. -/
theorem isClean_card : Rows.FnExactIsCleanCardSaid :=
  Claim7.holds_tied_plain_at .later [] _ _ _ _ isclean_said (fun _ h => by cases h) (by kernel_rfl) (fun _ h => by cases h) fnExactIsClean_row_tie rfl ⟨rfl, rfl⟩ (by kernel_rfl) rfl isclean_plain (by kernel_rfl)
#print axioms isClean_card

end Go.Proofs.YteeomicblaljnaaDoor
