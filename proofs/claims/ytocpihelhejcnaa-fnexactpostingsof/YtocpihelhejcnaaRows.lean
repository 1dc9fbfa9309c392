/-
  No cell of these rows narrows 'for every input' (looked for: loops, veiled, ifaces, maps, wideKeys, modest, calm, conditions, laid).
  DERIVED. THE GIVEN ROWS OF THIS SEAT. 10 by the template 'for every input the law returns true; each argument reads behind the call as it read before'; 0 by the template 'total and deterministic' (their statements: YtocpihelhejcnaaTotals.lean).
  GIVEN WITH THE SEED: the statements are not yours to turn. If you find one false, say at which input.
  Laid BY PROGRAM, IN A SANDBOX (cutbox-rows.mjs): the forced cells as the released guide's own fill.sh prints them over the translation d2009d2473b59058… (all of the seat's roots in one cut). By AI agents, Wed Nov 11 2026. No macro, syntax, notation, axiom, sorry.
-/
import Derived.Test.YtocpihelhejcnaaChecked
import GoSem.Claim
import GoSem.ClaimJoined
import GoSem.ClaimMapViews
import Derived.JoinedTies
import Derived.KernelRfl
namespace Go.Proofs.Ytocpihelhejcnaa
/- THE CELL 'sum', in the pinned program and in every row, IS THE sha256 OF THE DUMP (.gsa) THAT YtocpihelhejcnaaProg.lean LOADS. Nothing in Lean hashes anything: it is a label: what it is worth is what the hold of that sum in a sandbox is worth. -/
noncomputable def Try.pinned : Pinned := { name := "ytocpihelhejcnaa", sum := "d2009d2473b590588058c85d646ad21f2c9b98c7304b45ad4af9b8b44ed7ab87", checked := Try.checked }
namespace Rows
def none {H : Type} : Left H := { results := [], args := [] }

/-- 'laws.FnExactWordsIn': WHATEVER THE INPUT: true; the input reads as it did. -/
def fnExactWordsInSpec : ChangeSpec := { name := "fnExactWordsIn", fn := fun _ => fun
  | [d] => { results := [.lit (.bool true)], args := [d] }
  | _ => none }
def fnExactWordsInRow : OpenClaim := { program := "ytocpihelhejcnaa", sum := "d2009d2473b590588058c85d646ad21f2c9b98c7304b45ad4af9b8b44ed7ab87", func := "loop.example/g00274/laws.FnExactWordsIn", spec := "fnExactWordsIn", apart := false }
def FnExactWordsInSaid : Prop := fnExactWordsInRow.holds Try.pinned (OpenSpec.ofChange fnExactWordsInSpec)

/-- ITS FALSE NEIGHBOUR: 'it returns false'. Refute it at one input. -/
def fnExactWordsInWrong : ChangeSpec := { name := "fnExactWordsIn", fn := fun _ => fun
  | [d] => { results := [.lit (.bool false)], args := [d] }
  | _ => none }
def FnExactWordsInWrongFalsely : Prop := fnExactWordsInRow.holds Try.pinned (OpenSpec.ofChange fnExactWordsInWrong)

/-- 'laws.FnExactGoodWords': WHATEVER THE INPUT: true; the input reads as it did. -/
def fnExactGoodWordsSpec : ChangeSpec := { name := "fnExactGoodWords", fn := fun _ => fun
  | [d] => { results := [.lit (.bool true)], args := [d] }
  | _ => none }
def fnExactGoodWordsRow : OpenClaim := { program := "ytocpihelhejcnaa", sum := "d2009d2473b590588058c85d646ad21f2c9b98c7304b45ad4af9b8b44ed7ab87", func := "loop.example/g00274/laws.FnExactGoodWords", spec := "fnExactGoodWords", apart := false }
def FnExactGoodWordsSaid : Prop := fnExactGoodWordsRow.holds Try.pinned (OpenSpec.ofChange fnExactGoodWordsSpec)

/-- ITS FALSE NEIGHBOUR: 'it returns false'. Refute it at one input. -/
def fnExactGoodWordsWrong : ChangeSpec := { name := "fnExactGoodWords", fn := fun _ => fun
  | [d] => { results := [.lit (.bool false)], args := [d] }
  | _ => none }
def FnExactGoodWordsWrongFalsely : Prop := fnExactGoodWordsRow.holds Try.pinned (OpenSpec.ofChange fnExactGoodWordsWrong)

/-- 'laws.FnExactPostingsOf': WHATEVER THE INPUT: true; the input reads as it did. -/
def fnExactPostingsOfSpec : ChangeSpec := { name := "fnExactPostingsOf", fn := fun _ => fun
  | [d1, d2] => { results := [.lit (.bool true)], args := [d1, d2] }
  | _ => none }
def fnExactPostingsOfRow : OpenClaim := { program := "ytocpihelhejcnaa", sum := "d2009d2473b590588058c85d646ad21f2c9b98c7304b45ad4af9b8b44ed7ab87", func := "loop.example/g00274/laws.FnExactPostingsOf", spec := "fnExactPostingsOf", inPlace := ["internal/bytealg.abigen_runtime_cmpstring"], unfollowed := true, recurses := true, apart := false }
def FnExactPostingsOfSaid : Prop := fnExactPostingsOfRow.holds Try.pinned (OpenSpec.ofChange fnExactPostingsOfSpec)

/-- ITS FALSE NEIGHBOUR: 'it returns false'. Refute it at one input. -/
def fnExactPostingsOfWrong : ChangeSpec := { name := "fnExactPostingsOf", fn := fun _ => fun
  | [d1, d2] => { results := [.lit (.bool false)], args := [d1, d2] }
  | _ => none }
def FnExactPostingsOfWrongFalsely : Prop := fnExactPostingsOfRow.holds Try.pinned (OpenSpec.ofChange fnExactPostingsOfWrong)

/-- 'laws.FnExactWithAll': WHATEVER THE INPUT: true; the input reads as it did. -/
def fnExactWithAllSpec : ChangeSpec := { name := "fnExactWithAll", fn := fun _ => fun
  | [d1, d2] => { results := [.lit (.bool true)], args := [d1, d2] }
  | _ => none }
def fnExactWithAllRow : OpenClaim := { program := "ytocpihelhejcnaa", sum := "d2009d2473b590588058c85d646ad21f2c9b98c7304b45ad4af9b8b44ed7ab87", func := "loop.example/g00274/laws.FnExactWithAll", spec := "fnExactWithAll", inPlace := ["internal/bytealg.abigen_runtime_cmpstring"], unfollowed := true, recurses := true, apart := false }
def FnExactWithAllSaid : Prop := fnExactWithAllRow.holds Try.pinned (OpenSpec.ofChange fnExactWithAllSpec)

/-- ITS FALSE NEIGHBOUR: 'it returns false'. Refute it at one input. -/
def fnExactWithAllWrong : ChangeSpec := { name := "fnExactWithAll", fn := fun _ => fun
  | [d1, d2] => { results := [.lit (.bool false)], args := [d1, d2] }
  | _ => none }
def FnExactWithAllWrongFalsely : Prop := fnExactWithAllRow.holds Try.pinned (OpenSpec.ofChange fnExactWithAllWrong)

/-- 'laws.FnExactWithAny': WHATEVER THE INPUT: true; the input reads as it did. -/
def fnExactWithAnySpec : ChangeSpec := { name := "fnExactWithAny", fn := fun _ => fun
  | [d1, d2] => { results := [.lit (.bool true)], args := [d1, d2] }
  | _ => none }
def fnExactWithAnyRow : OpenClaim := { program := "ytocpihelhejcnaa", sum := "d2009d2473b590588058c85d646ad21f2c9b98c7304b45ad4af9b8b44ed7ab87", func := "loop.example/g00274/laws.FnExactWithAny", spec := "fnExactWithAny", inPlace := ["internal/bytealg.abigen_runtime_cmpstring"], unfollowed := true, recurses := true, apart := false }
def FnExactWithAnySaid : Prop := fnExactWithAnyRow.holds Try.pinned (OpenSpec.ofChange fnExactWithAnySpec)

/-- ITS FALSE NEIGHBOUR: 'it returns false'. Refute it at one input. -/
def fnExactWithAnyWrong : ChangeSpec := { name := "fnExactWithAny", fn := fun _ => fun
  | [d1, d2] => { results := [.lit (.bool false)], args := [d1, d2] }
  | _ => none }
def FnExactWithAnyWrongFalsely : Prop := fnExactWithAnyRow.holds Try.pinned (OpenSpec.ofChange fnExactWithAnyWrong)

/-- 'laws.FnExactWithout': WHATEVER THE INPUT: true; the input reads as it did. -/
def fnExactWithoutSpec : ChangeSpec := { name := "fnExactWithout", fn := fun _ => fun
  | [d1, d2] => { results := [.lit (.bool true)], args := [d1, d2] }
  | _ => none }
def fnExactWithoutRow : OpenClaim := { program := "ytocpihelhejcnaa", sum := "d2009d2473b590588058c85d646ad21f2c9b98c7304b45ad4af9b8b44ed7ab87", func := "loop.example/g00274/laws.FnExactWithout", spec := "fnExactWithout", inPlace := ["internal/bytealg.abigen_runtime_cmpstring"], unfollowed := true, recurses := true, apart := false }
def FnExactWithoutSaid : Prop := fnExactWithoutRow.holds Try.pinned (OpenSpec.ofChange fnExactWithoutSpec)

/-- ITS FALSE NEIGHBOUR: 'it returns false'. Refute it at one input. -/
def fnExactWithoutWrong : ChangeSpec := { name := "fnExactWithout", fn := fun _ => fun
  | [d1, d2] => { results := [.lit (.bool false)], args := [d1, d2] }
  | _ => none }
def FnExactWithoutWrongFalsely : Prop := fnExactWithoutRow.holds Try.pinned (OpenSpec.ofChange fnExactWithoutWrong)

/-- 'laws.FnExactPackPostings': WHATEVER THE INPUT: true; the input reads as it did. -/
def fnExactPackPostingsSpec : ChangeSpec := { name := "fnExactPackPostings", fn := fun _ => fun
  | [d] => { results := [.lit (.bool true)], args := [d] }
  | _ => none }
def fnExactPackPostingsRow : OpenClaim := { program := "ytocpihelhejcnaa", sum := "d2009d2473b590588058c85d646ad21f2c9b98c7304b45ad4af9b8b44ed7ab87", func := "loop.example/g00274/laws.FnExactPackPostings", spec := "fnExactPackPostings", apart := false }
def FnExactPackPostingsSaid : Prop := fnExactPackPostingsRow.holds Try.pinned (OpenSpec.ofChange fnExactPackPostingsSpec)

/-- ITS FALSE NEIGHBOUR: 'it returns false'. Refute it at one input. -/
def fnExactPackPostingsWrong : ChangeSpec := { name := "fnExactPackPostings", fn := fun _ => fun
  | [d] => { results := [.lit (.bool false)], args := [d] }
  | _ => none }
def FnExactPackPostingsWrongFalsely : Prop := fnExactPackPostingsRow.holds Try.pinned (OpenSpec.ofChange fnExactPackPostingsWrong)

/-- 'laws.FnExactUnpackPostings': WHATEVER THE INPUT: true; the input reads as it did. -/
def fnExactUnpackPostingsSpec : ChangeSpec := { name := "fnExactUnpackPostings", fn := fun _ => fun
  | [d] => { results := [.lit (.bool true)], args := [d] }
  | _ => none }
def fnExactUnpackPostingsRow : OpenClaim := { program := "ytocpihelhejcnaa", sum := "d2009d2473b590588058c85d646ad21f2c9b98c7304b45ad4af9b8b44ed7ab87", func := "loop.example/g00274/laws.FnExactUnpackPostings", spec := "fnExactUnpackPostings", apart := false }
def FnExactUnpackPostingsSaid : Prop := fnExactUnpackPostingsRow.holds Try.pinned (OpenSpec.ofChange fnExactUnpackPostingsSpec)

/-- ITS FALSE NEIGHBOUR: 'it returns false'. Refute it at one input. -/
def fnExactUnpackPostingsWrong : ChangeSpec := { name := "fnExactUnpackPostings", fn := fun _ => fun
  | [d] => { results := [.lit (.bool false)], args := [d] }
  | _ => none }
def FnExactUnpackPostingsWrongFalsely : Prop := fnExactUnpackPostingsRow.holds Try.pinned (OpenSpec.ofChange fnExactUnpackPostingsWrong)

/-- 'laws.FnPacked': WHATEVER THE INPUT: true; the input reads as it did. -/
def fnPackedSpec : ChangeSpec := { name := "fnPacked", fn := fun _ => fun
  | [d1, d2] => { results := [.lit (.bool true)], args := [d1, d2] }
  | _ => none }
def fnPackedRow : OpenClaim := { program := "ytocpihelhejcnaa", sum := "d2009d2473b590588058c85d646ad21f2c9b98c7304b45ad4af9b8b44ed7ab87", func := "loop.example/g00274/laws.FnPacked", spec := "fnPacked", apart := false }
def FnPackedSaid : Prop := fnPackedRow.holds Try.pinned (OpenSpec.ofChange fnPackedSpec)

/-- ITS FALSE NEIGHBOUR: 'it returns false'. Refute it at one input. -/
def fnPackedWrong : ChangeSpec := { name := "fnPacked", fn := fun _ => fun
  | [d1, d2] => { results := [.lit (.bool false)], args := [d1, d2] }
  | _ => none }
def FnPackedWrongFalsely : Prop := fnPackedRow.holds Try.pinned (OpenSpec.ofChange fnPackedWrong)

/-- 'laws.FnExactIndexOf': WHATEVER THE INPUT: true; the input reads as it did. -/
def fnExactIndexOfSpec : ChangeSpec := { name := "fnExactIndexOf", fn := fun _ => fun
  | [d] => { results := [.lit (.bool true)], args := [d] }
  | _ => none }
def fnExactIndexOfRow : OpenClaim := { program := "ytocpihelhejcnaa", sum := "d2009d2473b590588058c85d646ad21f2c9b98c7304b45ad4af9b8b44ed7ab87", func := "loop.example/g00274/laws.FnExactIndexOf", spec := "fnExactIndexOf", unfollowed := true, recurses := true, apart := false }
def FnExactIndexOfSaid : Prop := fnExactIndexOfRow.holds Try.pinned (OpenSpec.ofChange fnExactIndexOfSpec)

/-- ITS FALSE NEIGHBOUR: 'it returns false'. Refute it at one input. -/
def fnExactIndexOfWrong : ChangeSpec := { name := "fnExactIndexOf", fn := fun _ => fun
  | [d] => { results := [.lit (.bool false)], args := [d] }
  | _ => none }
def FnExactIndexOfWrongFalsely : Prop := fnExactIndexOfRow.holds Try.pinned (OpenSpec.ofChange fnExactIndexOfWrong)

/- THE SECOND FORM. 'bulk': how many values and letters a reading holds, each counted each time it is reached (what is shared counts as often as it is met; a slice's spare places count too). A statement '..UptoSaid' is the law's where the arguments, and the package variables that the reading takes, are together of bulk at most 1048576: NARROWER than '..Said'. Prove '..Said' where nothing that the law and all that it calls make is longer than what came in: it says more and counts as full. Else prove '..UptoSaid'. A law counts once. -/
mutual
def uptoBulk {H : Type} : DataW H → Nat
  | .lit (.string bytes) => bytes.length + 1
  | .lit _ => 1
  | .nil => 1
  | .ptr d => uptoBulk d + 1
  | .slice elems spare => uptoBulkAll elems + uptoBulkAll spare + 1
  | .agg parts => uptoBulkAll parts + 1
  | .iface _ d => uptoBulk d + 1
  | .map entries => uptoBulkEntries entries + 1
  | .held _ => 1
def uptoBulkAll {H : Type} : List (DataW H) → Nat
  | [] => 0
  | d :: r => uptoBulk d + uptoBulkAll r
def uptoBulkEntries {H : Type} : List (Lit × DataW H) → Nat
  | [] => 0
  | x :: r => uptoBulkEntry x + uptoBulkEntries r
def uptoBulkEntry {H : Type} : Lit × DataW H → Nat
  | (.string bytes, d) => bytes.length + uptoBulk d + 1
  | (_, d) => uptoBulk d + 1
 end
def uptoSmall : (H : Type) → List (DataW H) → Bool := fun _ ds => decide (uptoBulkAll ds ≤ 1048576)
def OpenSpec.upto (s : _root_.Go.ChangeSpec) : _root_.Go.OpenSpec := { _root_.Go.OpenSpec.ofChange s with cond := some uptoSmall }

/-- 'laws.FnExactWordsIn', WHERE WHAT IT READS IS OF BULK AT MOST 1048576: true; the input reads as it did. -/
def fnExactWordsInUptoRow : OpenClaim := { program := "ytocpihelhejcnaa", sum := "d2009d2473b590588058c85d646ad21f2c9b98c7304b45ad4af9b8b44ed7ab87", func := "loop.example/g00274/laws.FnExactWordsIn", spec := "fnExactWordsIn", apart := false, narrowed := true }
def FnExactWordsInUptoSaid : Prop := fnExactWordsInUptoRow.holds Try.pinned (OpenSpec.upto fnExactWordsInSpec)

/-- 'laws.FnExactGoodWords', WHERE WHAT IT READS IS OF BULK AT MOST 1048576: true; the input reads as it did. -/
def fnExactGoodWordsUptoRow : OpenClaim := { program := "ytocpihelhejcnaa", sum := "d2009d2473b590588058c85d646ad21f2c9b98c7304b45ad4af9b8b44ed7ab87", func := "loop.example/g00274/laws.FnExactGoodWords", spec := "fnExactGoodWords", apart := false, narrowed := true }
def FnExactGoodWordsUptoSaid : Prop := fnExactGoodWordsUptoRow.holds Try.pinned (OpenSpec.upto fnExactGoodWordsSpec)

/-- 'laws.FnExactPostingsOf', WHERE WHAT IT READS IS OF BULK AT MOST 1048576: true; the input reads as it did. -/
def fnExactPostingsOfUptoRow : OpenClaim := { program := "ytocpihelhejcnaa", sum := "d2009d2473b590588058c85d646ad21f2c9b98c7304b45ad4af9b8b44ed7ab87", func := "loop.example/g00274/laws.FnExactPostingsOf", spec := "fnExactPostingsOf", inPlace := ["internal/bytealg.abigen_runtime_cmpstring"], unfollowed := true, recurses := true, apart := false, narrowed := true }
def FnExactPostingsOfUptoSaid : Prop := fnExactPostingsOfUptoRow.holds Try.pinned (OpenSpec.upto fnExactPostingsOfSpec)

/-- 'laws.FnExactWithAll', WHERE WHAT IT READS IS OF BULK AT MOST 1048576: true; the input reads as it did. -/
def fnExactWithAllUptoRow : OpenClaim := { program := "ytocpihelhejcnaa", sum := "d2009d2473b590588058c85d646ad21f2c9b98c7304b45ad4af9b8b44ed7ab87", func := "loop.example/g00274/laws.FnExactWithAll", spec := "fnExactWithAll", inPlace := ["internal/bytealg.abigen_runtime_cmpstring"], unfollowed := true, recurses := true, apart := false, narrowed := true }
def FnExactWithAllUptoSaid : Prop := fnExactWithAllUptoRow.holds Try.pinned (OpenSpec.upto fnExactWithAllSpec)

/-- 'laws.FnExactWithAny', WHERE WHAT IT READS IS OF BULK AT MOST 1048576: true; the input reads as it did. -/
def fnExactWithAnyUptoRow : OpenClaim := { program := "ytocpihelhejcnaa", sum := "d2009d2473b590588058c85d646ad21f2c9b98c7304b45ad4af9b8b44ed7ab87", func := "loop.example/g00274/laws.FnExactWithAny", spec := "fnExactWithAny", inPlace := ["internal/bytealg.abigen_runtime_cmpstring"], unfollowed := true, recurses := true, apart := false, narrowed := true }
def FnExactWithAnyUptoSaid : Prop := fnExactWithAnyUptoRow.holds Try.pinned (OpenSpec.upto fnExactWithAnySpec)

/-- 'laws.FnExactWithout', WHERE WHAT IT READS IS OF BULK AT MOST 1048576: true; the input reads as it did. -/
def fnExactWithoutUptoRow : OpenClaim := { program := "ytocpihelhejcnaa", sum := "d2009d2473b590588058c85d646ad21f2c9b98c7304b45ad4af9b8b44ed7ab87", func := "loop.example/g00274/laws.FnExactWithout", spec := "fnExactWithout", inPlace := ["internal/bytealg.abigen_runtime_cmpstring"], unfollowed := true, recurses := true, apart := false, narrowed := true }
def FnExactWithoutUptoSaid : Prop := fnExactWithoutUptoRow.holds Try.pinned (OpenSpec.upto fnExactWithoutSpec)

/-- 'laws.FnExactPackPostings', WHERE WHAT IT READS IS OF BULK AT MOST 1048576: true; the input reads as it did. -/
def fnExactPackPostingsUptoRow : OpenClaim := { program := "ytocpihelhejcnaa", sum := "d2009d2473b590588058c85d646ad21f2c9b98c7304b45ad4af9b8b44ed7ab87", func := "loop.example/g00274/laws.FnExactPackPostings", spec := "fnExactPackPostings", apart := false, narrowed := true }
def FnExactPackPostingsUptoSaid : Prop := fnExactPackPostingsUptoRow.holds Try.pinned (OpenSpec.upto fnExactPackPostingsSpec)

/-- 'laws.FnExactUnpackPostings', WHERE WHAT IT READS IS OF BULK AT MOST 1048576: true; the input reads as it did. -/
def fnExactUnpackPostingsUptoRow : OpenClaim := { program := "ytocpihelhejcnaa", sum := "d2009d2473b590588058c85d646ad21f2c9b98c7304b45ad4af9b8b44ed7ab87", func := "loop.example/g00274/laws.FnExactUnpackPostings", spec := "fnExactUnpackPostings", apart := false, narrowed := true }
def FnExactUnpackPostingsUptoSaid : Prop := fnExactUnpackPostingsUptoRow.holds Try.pinned (OpenSpec.upto fnExactUnpackPostingsSpec)

/-- 'laws.FnPacked', WHERE WHAT IT READS IS OF BULK AT MOST 1048576: true; the input reads as it did. -/
def fnPackedUptoRow : OpenClaim := { program := "ytocpihelhejcnaa", sum := "d2009d2473b590588058c85d646ad21f2c9b98c7304b45ad4af9b8b44ed7ab87", func := "loop.example/g00274/laws.FnPacked", spec := "fnPacked", apart := false, narrowed := true }
def FnPackedUptoSaid : Prop := fnPackedUptoRow.holds Try.pinned (OpenSpec.upto fnPackedSpec)

/-- 'laws.FnExactIndexOf', WHERE WHAT IT READS IS OF BULK AT MOST 1048576: true; the input reads as it did. -/
def fnExactIndexOfUptoRow : OpenClaim := { program := "ytocpihelhejcnaa", sum := "d2009d2473b590588058c85d646ad21f2c9b98c7304b45ad4af9b8b44ed7ab87", func := "loop.example/g00274/laws.FnExactIndexOf", spec := "fnExactIndexOf", unfollowed := true, recurses := true, apart := false, narrowed := true }
def FnExactIndexOfUptoSaid : Prop := fnExactIndexOfUptoRow.holds Try.pinned (OpenSpec.upto fnExactIndexOfSpec)

end Rows
end Go.Proofs.Ytocpihelhejcnaa
