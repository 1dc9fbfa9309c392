/-
  No cell of these rows narrows 'for every input' (looked for: loops, veiled, ifaces, maps, wideKeys, modest, calm, conditions, laid).
  DERIVED. THE GIVEN ROWS OF THIS SEAT. 8 by the template 'for every input the law returns true; each argument reads behind the call as it read before'; 0 by the template 'total and deterministic' (their statements: YtdaomklgcdfllaaTotals.lean).
  GIVEN WITH THE SEED: the statements are not yours to turn. If you find one false, say at which input.
  Laid BY PROGRAM, IN A SANDBOX (cutbox-rows.mjs): the forced cells as the released guide's own fill.sh prints them over the translation 57857410da923b29… (all of the seat's roots in one cut). By AI agents, Wed Nov 11 2026. No macro, syntax, notation, axiom, sorry.
-/
import Derived.Test.YtdaomklgcdfllaaChecked
import GoSem.Claim
import GoSem.ClaimJoined
import GoSem.ClaimMapViews
import Derived.JoinedTies
import Derived.KernelRfl
namespace Go.Proofs.Ytdaomklgcdfllaa
/- THE CELL 'sum', in the pinned program and in every row, IS THE sha256 OF THE DUMP (.gsa) THAT YtdaomklgcdfllaaProg.lean LOADS. Nothing in Lean hashes anything: it is a label: what it is worth is what the hold of that sum in a sandbox is worth. -/
noncomputable def Try.pinned : Pinned := { name := "ytdaomklgcdfllaa", sum := "57857410da923b29f54da6664c8e17f6c8527c40b2054472fe074719129ac0f5", checked := Try.checked }
namespace Rows
def none {H : Type} : Left H := { results := [], args := [] }

/-- 'laws.FnExactIndexOf': WHATEVER THE INPUT: true; the input reads as it did. -/
def fnExactIndexOfSpec : ChangeSpec := { name := "fnExactIndexOf", fn := fun _ => fun
  | [d] => { results := [.lit (.bool true)], args := [d] }
  | _ => none }
def fnExactIndexOfRow : OpenClaim := { program := "ytdaomklgcdfllaa", sum := "57857410da923b29f54da6664c8e17f6c8527c40b2054472fe074719129ac0f5", func := "loop.example/g00274/laws.FnExactIndexOf", spec := "fnExactIndexOf", unfollowed := true, recurses := true, apart := false }
def FnExactIndexOfSaid : Prop := fnExactIndexOfRow.holds Try.pinned (OpenSpec.ofChange fnExactIndexOfSpec)

/-- ITS FALSE NEIGHBOUR: 'it returns false'. Refute it at one input. -/
def fnExactIndexOfWrong : ChangeSpec := { name := "fnExactIndexOf", fn := fun _ => fun
  | [d] => { results := [.lit (.bool false)], args := [d] }
  | _ => none }
def FnExactIndexOfWrongFalsely : Prop := fnExactIndexOfRow.holds Try.pinned (OpenSpec.ofChange fnExactIndexOfWrong)

/-- 'laws.FnExactGoodRankings': WHATEVER THE INPUT: true; the input reads as it did. -/
def fnExactGoodRankingsSpec : ChangeSpec := { name := "fnExactGoodRankings", fn := fun _ => fun
  | [d] => { results := [.lit (.bool true)], args := [d] }
  | _ => none }
def fnExactGoodRankingsRow : OpenClaim := { program := "ytdaomklgcdfllaa", sum := "57857410da923b29f54da6664c8e17f6c8527c40b2054472fe074719129ac0f5", func := "loop.example/g00274/laws.FnExactGoodRankings", spec := "fnExactGoodRankings", apart := false }
def FnExactGoodRankingsSaid : Prop := fnExactGoodRankingsRow.holds Try.pinned (OpenSpec.ofChange fnExactGoodRankingsSpec)

/-- ITS FALSE NEIGHBOUR: 'it returns false'. Refute it at one input. -/
def fnExactGoodRankingsWrong : ChangeSpec := { name := "fnExactGoodRankings", fn := fun _ => fun
  | [d] => { results := [.lit (.bool false)], args := [d] }
  | _ => none }
def FnExactGoodRankingsWrongFalsely : Prop := fnExactGoodRankingsRow.holds Try.pinned (OpenSpec.ofChange fnExactGoodRankingsWrong)

/-- 'laws.FnExactSumOf': WHATEVER THE INPUT: true; the input reads as it did. -/
def fnExactSumOfSpec : ChangeSpec := { name := "fnExactSumOf", fn := fun _ => fun
  | [d1, d2] => { results := [.lit (.bool true)], args := [d1, d2] }
  | _ => none }
def fnExactSumOfRow : OpenClaim := { program := "ytdaomklgcdfllaa", sum := "57857410da923b29f54da6664c8e17f6c8527c40b2054472fe074719129ac0f5", func := "loop.example/g00274/laws.FnExactSumOf", spec := "fnExactSumOf", apart := false }
def FnExactSumOfSaid : Prop := fnExactSumOfRow.holds Try.pinned (OpenSpec.ofChange fnExactSumOfSpec)

/-- ITS FALSE NEIGHBOUR: 'it returns false'. Refute it at one input. -/
def fnExactSumOfWrong : ChangeSpec := { name := "fnExactSumOf", fn := fun _ => fun
  | [d1, d2] => { results := [.lit (.bool false)], args := [d1, d2] }
  | _ => none }
def FnExactSumOfWrongFalsely : Prop := fnExactSumOfRow.holds Try.pinned (OpenSpec.ofChange fnExactSumOfWrong)

/-- 'laws.FnExactAllBest': WHATEVER THE INPUT: true; the input reads as it did. -/
def fnExactAllBestSpec : ChangeSpec := { name := "fnExactAllBest", fn := fun _ => fun
  | [d1, d2] => { results := [.lit (.bool true)], args := [d1, d2] }
  | _ => none }
def fnExactAllBestRow : OpenClaim := { program := "ytdaomklgcdfllaa", sum := "57857410da923b29f54da6664c8e17f6c8527c40b2054472fe074719129ac0f5", func := "loop.example/g00274/laws.FnExactAllBest", spec := "fnExactAllBest", unfollowed := true, recurses := true, apart := false }
def FnExactAllBestSaid : Prop := fnExactAllBestRow.holds Try.pinned (OpenSpec.ofChange fnExactAllBestSpec)

/-- ITS FALSE NEIGHBOUR: 'it returns false'. Refute it at one input. -/
def fnExactAllBestWrong : ChangeSpec := { name := "fnExactAllBest", fn := fun _ => fun
  | [d1, d2] => { results := [.lit (.bool false)], args := [d1, d2] }
  | _ => none }
def FnExactAllBestWrongFalsely : Prop := fnExactAllBestRow.holds Try.pinned (OpenSpec.ofChange fnExactAllBestWrong)

/-- 'laws.FnExactTopBest': WHATEVER THE INPUT: true; the input reads as it did. -/
def fnExactTopBestSpec : ChangeSpec := { name := "fnExactTopBest", fn := fun _ => fun
  | [d1, d2] => { results := [.lit (.bool true)], args := [d1, d2] }
  | _ => none }
def fnExactTopBestRow : OpenClaim := { program := "ytdaomklgcdfllaa", sum := "57857410da923b29f54da6664c8e17f6c8527c40b2054472fe074719129ac0f5", func := "loop.example/g00274/laws.FnExactTopBest", spec := "fnExactTopBest", unfollowed := true, recurses := true, apart := false }
def FnExactTopBestSaid : Prop := fnExactTopBestRow.holds Try.pinned (OpenSpec.ofChange fnExactTopBestSpec)

/-- ITS FALSE NEIGHBOUR: 'it returns false'. Refute it at one input. -/
def fnExactTopBestWrong : ChangeSpec := { name := "fnExactTopBest", fn := fun _ => fun
  | [d1, d2] => { results := [.lit (.bool false)], args := [d1, d2] }
  | _ => none }
def FnExactTopBestWrongFalsely : Prop := fnExactTopBestRow.holds Try.pinned (OpenSpec.ofChange fnExactTopBestWrong)

/-- 'laws.FnExactScoreOf': WHATEVER THE INPUT: true; the input reads as it did. -/
def fnExactScoreOfSpec : ChangeSpec := { name := "fnExactScoreOf", fn := fun _ => fun
  | [d1, d2, d3] => { results := [.lit (.bool true)], args := [d1, d2, d3] }
  | _ => none }
def fnExactScoreOfRow : OpenClaim := { program := "ytdaomklgcdfllaa", sum := "57857410da923b29f54da6664c8e17f6c8527c40b2054472fe074719129ac0f5", func := "loop.example/g00274/laws.FnExactScoreOf", spec := "fnExactScoreOf", inPlace := ["internal/bytealg.abigen_runtime_cmpstring"], unfollowed := true, recurses := true, apart := false }
def FnExactScoreOfSaid : Prop := fnExactScoreOfRow.holds Try.pinned (OpenSpec.ofChange fnExactScoreOfSpec)

/-- ITS FALSE NEIGHBOUR: 'it returns false'. Refute it at one input. -/
def fnExactScoreOfWrong : ChangeSpec := { name := "fnExactScoreOf", fn := fun _ => fun
  | [d1, d2, d3] => { results := [.lit (.bool false)], args := [d1, d2, d3] }
  | _ => none }
def FnExactScoreOfWrongFalsely : Prop := fnExactScoreOfRow.holds Try.pinned (OpenSpec.ofChange fnExactScoreOfWrong)

/-- 'laws.FnExactRankTexts': WHATEVER THE INPUT: true; the input reads as it did. -/
def fnExactRankTextsSpec : ChangeSpec := { name := "fnExactRankTexts", fn := fun _ => fun
  | [d1, d2, d3] => { results := [.lit (.bool true)], args := [d1, d2, d3] }
  | _ => none }
def fnExactRankTextsRow : OpenClaim := { program := "ytdaomklgcdfllaa", sum := "57857410da923b29f54da6664c8e17f6c8527c40b2054472fe074719129ac0f5", func := "loop.example/g00274/laws.FnExactRankTexts", spec := "fnExactRankTexts", inPlace := ["internal/bytealg.abigen_runtime_cmpstring"], unfollowed := true, recurses := true, apart := false }
def FnExactRankTextsSaid : Prop := fnExactRankTextsRow.holds Try.pinned (OpenSpec.ofChange fnExactRankTextsSpec)

/-- ITS FALSE NEIGHBOUR: 'it returns false'. Refute it at one input. -/
def fnExactRankTextsWrong : ChangeSpec := { name := "fnExactRankTexts", fn := fun _ => fun
  | [d1, d2, d3] => { results := [.lit (.bool false)], args := [d1, d2, d3] }
  | _ => none }
def FnExactRankTextsWrongFalsely : Prop := fnExactRankTextsRow.holds Try.pinned (OpenSpec.ofChange fnExactRankTextsWrong)

/-- 'laws.FnExactRankingsFor': WHATEVER THE INPUT: true; the input reads as it did. -/
def fnExactRankingsForSpec : ChangeSpec := { name := "fnExactRankingsFor", fn := fun _ => fun
  | [d1, d2] => { results := [.lit (.bool true)], args := [d1, d2] }
  | _ => none }
def fnExactRankingsForRow : OpenClaim := { program := "ytdaomklgcdfllaa", sum := "57857410da923b29f54da6664c8e17f6c8527c40b2054472fe074719129ac0f5", func := "loop.example/g00274/laws.FnExactRankingsFor", spec := "fnExactRankingsFor", inPlace := ["internal/bytealg.abigen_runtime_cmpstring"], unfollowed := true, recurses := true, apart := false }
def FnExactRankingsForSaid : Prop := fnExactRankingsForRow.holds Try.pinned (OpenSpec.ofChange fnExactRankingsForSpec)

/-- ITS FALSE NEIGHBOUR: 'it returns false'. Refute it at one input. -/
def fnExactRankingsForWrong : ChangeSpec := { name := "fnExactRankingsFor", fn := fun _ => fun
  | [d1, d2] => { results := [.lit (.bool false)], args := [d1, d2] }
  | _ => none }
def FnExactRankingsForWrongFalsely : Prop := fnExactRankingsForRow.holds Try.pinned (OpenSpec.ofChange fnExactRankingsForWrong)

/- THE SECOND FORM. 'bulk': how many values and letters a reading holds, each counted each time it is reached (what is shared counts as often as it is met; a slice's spare places count too). A statement '..UptoSaid' is the law's where the arguments, and the package variables that the reading takes, are together of bulk at most 1048576: NARROWER than '..Said'. Prove '..Said' where nothing that the law and all that it calls make is longer than what came in: it says more and counts as full. Else prove '..UptoSaid'. A law counts once. -/
mutual
def uptoBulk {H : Type} : DataW H → Nat
  | .lit (.string bytes) => bytes.length + 1
  | .lit _ => 1
  | .nil => 1
  | .ptr d => uptoBulk d + 1
  | .slice elems spare => uptoBulkAll elems + uptoBulkAll spare + 1
  | .agg parts => uptoBulkAll parts + 1
  | .iface _ d => uptoBulk d + 1
  | .map entries => uptoBulkEntries entries + 1
  | .held _ => 1
def uptoBulkAll {H : Type} : List (DataW H) → Nat
  | [] => 0
  | d :: r => uptoBulk d + uptoBulkAll r
def uptoBulkEntries {H : Type} : List (Lit × DataW H) → Nat
  | [] => 0
  | x :: r => uptoBulkEntry x + uptoBulkEntries r
def uptoBulkEntry {H : Type} : Lit × DataW H → Nat
  | (.string bytes, d) => bytes.length + uptoBulk d + 1
  | (_, d) => uptoBulk d + 1
 end
def uptoSmall : (H : Type) → List (DataW H) → Bool := fun _ ds => decide (uptoBulkAll ds ≤ 1048576)
def OpenSpec.upto (s : _root_.Go.ChangeSpec) : _root_.Go.OpenSpec := { _root_.Go.OpenSpec.ofChange s with cond := some uptoSmall }

/-- 'laws.FnExactIndexOf', WHERE WHAT IT READS IS OF BULK AT MOST 1048576: true; the input reads as it did. -/
def fnExactIndexOfUptoRow : OpenClaim := { program := "ytdaomklgcdfllaa", sum := "57857410da923b29f54da6664c8e17f6c8527c40b2054472fe074719129ac0f5", func := "loop.example/g00274/laws.FnExactIndexOf", spec := "fnExactIndexOf", unfollowed := true, recurses := true, apart := false, narrowed := true }
def FnExactIndexOfUptoSaid : Prop := fnExactIndexOfUptoRow.holds Try.pinned (OpenSpec.upto fnExactIndexOfSpec)

/-- 'laws.FnExactGoodRankings', WHERE WHAT IT READS IS OF BULK AT MOST 1048576: true; the input reads as it did. -/
def fnExactGoodRankingsUptoRow : OpenClaim := { program := "ytdaomklgcdfllaa", sum := "57857410da923b29f54da6664c8e17f6c8527c40b2054472fe074719129ac0f5", func := "loop.example/g00274/laws.FnExactGoodRankings", spec := "fnExactGoodRankings", apart := false, narrowed := true }
def FnExactGoodRankingsUptoSaid : Prop := fnExactGoodRankingsUptoRow.holds Try.pinned (OpenSpec.upto fnExactGoodRankingsSpec)

/-- 'laws.FnExactSumOf', WHERE WHAT IT READS IS OF BULK AT MOST 1048576: true; the input reads as it did. -/
def fnExactSumOfUptoRow : OpenClaim := { program := "ytdaomklgcdfllaa", sum := "57857410da923b29f54da6664c8e17f6c8527c40b2054472fe074719129ac0f5", func := "loop.example/g00274/laws.FnExactSumOf", spec := "fnExactSumOf", apart := false, narrowed := true }
def FnExactSumOfUptoSaid : Prop := fnExactSumOfUptoRow.holds Try.pinned (OpenSpec.upto fnExactSumOfSpec)

/-- 'laws.FnExactAllBest', WHERE WHAT IT READS IS OF BULK AT MOST 1048576: true; the input reads as it did. -/
def fnExactAllBestUptoRow : OpenClaim := { program := "ytdaomklgcdfllaa", sum := "57857410da923b29f54da6664c8e17f6c8527c40b2054472fe074719129ac0f5", func := "loop.example/g00274/laws.FnExactAllBest", spec := "fnExactAllBest", unfollowed := true, recurses := true, apart := false, narrowed := true }
def FnExactAllBestUptoSaid : Prop := fnExactAllBestUptoRow.holds Try.pinned (OpenSpec.upto fnExactAllBestSpec)

/-- 'laws.FnExactTopBest', WHERE WHAT IT READS IS OF BULK AT MOST 1048576: true; the input reads as it did. -/
def fnExactTopBestUptoRow : OpenClaim := { program := "ytdaomklgcdfllaa", sum := "57857410da923b29f54da6664c8e17f6c8527c40b2054472fe074719129ac0f5", func := "loop.example/g00274/laws.FnExactTopBest", spec := "fnExactTopBest", unfollowed := true, recurses := true, apart := false, narrowed := true }
def FnExactTopBestUptoSaid : Prop := fnExactTopBestUptoRow.holds Try.pinned (OpenSpec.upto fnExactTopBestSpec)

/-- 'laws.FnExactScoreOf', WHERE WHAT IT READS IS OF BULK AT MOST 1048576: true; the input reads as it did. -/
def fnExactScoreOfUptoRow : OpenClaim := { program := "ytdaomklgcdfllaa", sum := "57857410da923b29f54da6664c8e17f6c8527c40b2054472fe074719129ac0f5", func := "loop.example/g00274/laws.FnExactScoreOf", spec := "fnExactScoreOf", inPlace := ["internal/bytealg.abigen_runtime_cmpstring"], unfollowed := true, recurses := true, apart := false, narrowed := true }
def FnExactScoreOfUptoSaid : Prop := fnExactScoreOfUptoRow.holds Try.pinned (OpenSpec.upto fnExactScoreOfSpec)

/-- 'laws.FnExactRankTexts', WHERE WHAT IT READS IS OF BULK AT MOST 1048576: true; the input reads as it did. -/
def fnExactRankTextsUptoRow : OpenClaim := { program := "ytdaomklgcdfllaa", sum := "57857410da923b29f54da6664c8e17f6c8527c40b2054472fe074719129ac0f5", func := "loop.example/g00274/laws.FnExactRankTexts", spec := "fnExactRankTexts", inPlace := ["internal/bytealg.abigen_runtime_cmpstring"], unfollowed := true, recurses := true, apart := false, narrowed := true }
def FnExactRankTextsUptoSaid : Prop := fnExactRankTextsUptoRow.holds Try.pinned (OpenSpec.upto fnExactRankTextsSpec)

/-- 'laws.FnExactRankingsFor', WHERE WHAT IT READS IS OF BULK AT MOST 1048576: true; the input reads as it did. -/
def fnExactRankingsForUptoRow : OpenClaim := { program := "ytdaomklgcdfllaa", sum := "57857410da923b29f54da6664c8e17f6c8527c40b2054472fe074719129ac0f5", func := "loop.example/g00274/laws.FnExactRankingsFor", spec := "fnExactRankingsFor", inPlace := ["internal/bytealg.abigen_runtime_cmpstring"], unfollowed := true, recurses := true, apart := false, narrowed := true }
def FnExactRankingsForUptoSaid : Prop := fnExactRankingsForUptoRow.holds Try.pinned (OpenSpec.upto fnExactRankingsForSpec)

end Rows
end Go.Proofs.Ytdaomklgcdfllaa
