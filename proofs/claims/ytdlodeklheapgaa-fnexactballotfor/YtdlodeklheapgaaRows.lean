/-
  No cell of these rows narrows 'for every input' (looked for: loops, veiled, ifaces, maps, wideKeys, modest, calm, conditions, laid).
  DERIVED. THE GIVEN ROWS OF THIS SEAT. 7 by the template 'for every input the law returns true; each argument reads behind the call as it read before'; 0 by the template 'total and deterministic' (their statements: YtdlodeklheapgaaTotals.lean).
  GIVEN WITH THE SEED: the statements are not yours to turn. If you find one false, say at which input.
  Laid BY PROGRAM, IN A SANDBOX (cutbox-rows.mjs): the forced cells as the released guide's own fill.sh prints them over the translation 85499d8e20b0e833… (all of the seat's roots in one cut). By AI agents, Wed Nov 11 2026. No macro, syntax, notation, axiom, sorry.
-/
import Derived.Test.YtdlodeklheapgaaChecked
import GoSem.Claim
import GoSem.ClaimJoined
import GoSem.ClaimMapViews
import Derived.JoinedTies
import Derived.KernelRfl
namespace Go.Proofs.Ytdlodeklheapgaa
/- THE CELL 'sum', in the pinned program and in every row, IS THE sha256 OF THE DUMP (.gsa) THAT YtdlodeklheapgaaProg.lean LOADS. Nothing in Lean hashes anything: it is a label: what it is worth is what the hold of that sum in a sandbox is worth. -/
noncomputable def Try.pinned : Pinned := { name := "ytdlodeklheapgaa", sum := "85499d8e20b0e8332a5ce50375d6fbf97cf1a60b3568a61e7f5cc23fca39a445", checked := Try.checked }
namespace Rows
def none {H : Type} : Left H := { results := [], args := [] }

/-- 'laws.FnOneValue': WHATEVER THE INPUT: true; the input reads as it did. -/
def fnOneValueSpec : ChangeSpec := { name := "fnOneValue", fn := fun _ => fun
  | [d] => { results := [.lit (.bool true)], args := [d] }
  | _ => none }
def fnOneValueRow : OpenClaim := { program := "ytdlodeklheapgaa", sum := "85499d8e20b0e8332a5ce50375d6fbf97cf1a60b3568a61e7f5cc23fca39a445", func := "loop.example/g00274/laws.FnOneValue", spec := "fnOneValue", unfollowed := true, recurses := true, plainKeys := false, apart := false }
def FnOneValueSaid : Prop := fnOneValueRow.holds Try.pinned (OpenSpec.ofChange fnOneValueSpec)

/-- ITS FALSE NEIGHBOUR: 'it returns false'. Refute it at one input. -/
def fnOneValueWrong : ChangeSpec := { name := "fnOneValue", fn := fun _ => fun
  | [d] => { results := [.lit (.bool false)], args := [d] }
  | _ => none }
def FnOneValueWrongFalsely : Prop := fnOneValueRow.holds Try.pinned (OpenSpec.ofChange fnOneValueWrong)

/-- 'laws.FnVoters': WHATEVER THE INPUT: true; the input reads as it did. -/
def fnVotersSpec : ChangeSpec := { name := "fnVoters", fn := fun _ => fun
  | [d1, d2] => { results := [.lit (.bool true)], args := [d1, d2] }
  | _ => none }
def fnVotersRow : OpenClaim := { program := "ytdlodeklheapgaa", sum := "85499d8e20b0e8332a5ce50375d6fbf97cf1a60b3568a61e7f5cc23fca39a445", func := "loop.example/g00274/laws.FnVoters", spec := "fnVoters", unfollowed := true, recurses := true, plainKeys := false, apart := false }
def FnVotersSaid : Prop := fnVotersRow.holds Try.pinned (OpenSpec.ofChange fnVotersSpec)

/-- ITS FALSE NEIGHBOUR: 'it returns false'. Refute it at one input. -/
def fnVotersWrong : ChangeSpec := { name := "fnVoters", fn := fun _ => fun
  | [d1, d2] => { results := [.lit (.bool false)], args := [d1, d2] }
  | _ => none }
def FnVotersWrongFalsely : Prop := fnVotersRow.holds Try.pinned (OpenSpec.ofChange fnVotersWrong)

/-- 'laws.FnExactNewPaxos': WHATEVER THE INPUT: true; the input reads as it did. -/
def fnExactNewPaxosSpec : ChangeSpec := { name := "fnExactNewPaxos", fn := fun _ => fun
  | [d1, d2] => { results := [.lit (.bool true)], args := [d1, d2] }
  | _ => none }
def fnExactNewPaxosRow : OpenClaim := { program := "ytdlodeklheapgaa", sum := "85499d8e20b0e8332a5ce50375d6fbf97cf1a60b3568a61e7f5cc23fca39a445", func := "loop.example/g00274/laws.FnExactNewPaxos", spec := "fnExactNewPaxos", plainKeys := false, apart := false }
def FnExactNewPaxosSaid : Prop := fnExactNewPaxosRow.holds Try.pinned (OpenSpec.ofChange fnExactNewPaxosSpec)

/-- ITS FALSE NEIGHBOUR: 'it returns false'. Refute it at one input. -/
def fnExactNewPaxosWrong : ChangeSpec := { name := "fnExactNewPaxos", fn := fun _ => fun
  | [d1, d2] => { results := [.lit (.bool false)], args := [d1, d2] }
  | _ => none }
def FnExactNewPaxosWrongFalsely : Prop := fnExactNewPaxosRow.holds Try.pinned (OpenSpec.ofChange fnExactNewPaxosWrong)

/-- 'laws.FnExactGoodPaxos': WHATEVER THE INPUT: true; the input reads as it did. -/
def fnExactGoodPaxosSpec : ChangeSpec := { name := "fnExactGoodPaxos", fn := fun _ => fun
  | [d] => { results := [.lit (.bool true)], args := [d] }
  | _ => none }
def fnExactGoodPaxosRow : OpenClaim := { program := "ytdlodeklheapgaa", sum := "85499d8e20b0e8332a5ce50375d6fbf97cf1a60b3568a61e7f5cc23fca39a445", func := "loop.example/g00274/laws.FnExactGoodPaxos", spec := "fnExactGoodPaxos", unfollowed := true, recurses := true, plainKeys := false, apart := false }
def FnExactGoodPaxosSaid : Prop := fnExactGoodPaxosRow.holds Try.pinned (OpenSpec.ofChange fnExactGoodPaxosSpec)

/-- ITS FALSE NEIGHBOUR: 'it returns false'. Refute it at one input. -/
def fnExactGoodPaxosWrong : ChangeSpec := { name := "fnExactGoodPaxos", fn := fun _ => fun
  | [d] => { results := [.lit (.bool false)], args := [d] }
  | _ => none }
def FnExactGoodPaxosWrongFalsely : Prop := fnExactGoodPaxosRow.holds Try.pinned (OpenSpec.ofChange fnExactGoodPaxosWrong)

/-- 'laws.FnExactChosenIn': WHATEVER THE INPUT: true; the input reads as it did. -/
def fnExactChosenInSpec : ChangeSpec := { name := "fnExactChosenIn", fn := fun _ => fun
  | [d] => { results := [.lit (.bool true)], args := [d] }
  | _ => none }
def fnExactChosenInRow : OpenClaim := { program := "ytdlodeklheapgaa", sum := "85499d8e20b0e8332a5ce50375d6fbf97cf1a60b3568a61e7f5cc23fca39a445", func := "loop.example/g00274/laws.FnExactChosenIn", spec := "fnExactChosenIn", unfollowed := true, recurses := true, plainKeys := false, apart := false }
def FnExactChosenInSaid : Prop := fnExactChosenInRow.holds Try.pinned (OpenSpec.ofChange fnExactChosenInSpec)

/-- ITS FALSE NEIGHBOUR: 'it returns false'. Refute it at one input. -/
def fnExactChosenInWrong : ChangeSpec := { name := "fnExactChosenIn", fn := fun _ => fun
  | [d] => { results := [.lit (.bool false)], args := [d] }
  | _ => none }
def FnExactChosenInWrongFalsely : Prop := fnExactChosenInRow.holds Try.pinned (OpenSpec.ofChange fnExactChosenInWrong)

/-- 'laws.FnExactBallotFor': WHATEVER THE INPUT: true; the input reads as it did. -/
def fnExactBallotForSpec : ChangeSpec := { name := "fnExactBallotFor", fn := fun _ => fun
  | [d1, d2] => { results := [.lit (.bool true)], args := [d1, d2] }
  | _ => none }
def fnExactBallotForRow : OpenClaim := { program := "ytdlodeklheapgaa", sum := "85499d8e20b0e8332a5ce50375d6fbf97cf1a60b3568a61e7f5cc23fca39a445", func := "loop.example/g00274/laws.FnExactBallotFor", spec := "fnExactBallotFor", plainKeys := false, apart := false }
def FnExactBallotForSaid : Prop := fnExactBallotForRow.holds Try.pinned (OpenSpec.ofChange fnExactBallotForSpec)

/-- ITS FALSE NEIGHBOUR: 'it returns false'. Refute it at one input. -/
def fnExactBallotForWrong : ChangeSpec := { name := "fnExactBallotFor", fn := fun _ => fun
  | [d1, d2] => { results := [.lit (.bool false)], args := [d1, d2] }
  | _ => none }
def FnExactBallotForWrongFalsely : Prop := fnExactBallotForRow.holds Try.pinned (OpenSpec.ofChange fnExactBallotForWrong)

/-- 'laws.FnExactMajorityOf': WHATEVER THE INPUT: true; the input reads as it did. -/
def fnExactMajorityOfSpec : ChangeSpec := { name := "fnExactMajorityOf", fn := fun _ => fun
  | [d] => { results := [.lit (.bool true)], args := [d] }
  | _ => none }
def fnExactMajorityOfRow : OpenClaim := { program := "ytdlodeklheapgaa", sum := "85499d8e20b0e8332a5ce50375d6fbf97cf1a60b3568a61e7f5cc23fca39a445", func := "loop.example/g00274/laws.FnExactMajorityOf", spec := "fnExactMajorityOf", plainKeys := false, apart := false }
def FnExactMajorityOfSaid : Prop := fnExactMajorityOfRow.holds Try.pinned (OpenSpec.ofChange fnExactMajorityOfSpec)

/-- ITS FALSE NEIGHBOUR: 'it returns false'. Refute it at one input. -/
def fnExactMajorityOfWrong : ChangeSpec := { name := "fnExactMajorityOf", fn := fun _ => fun
  | [d] => { results := [.lit (.bool false)], args := [d] }
  | _ => none }
def FnExactMajorityOfWrongFalsely : Prop := fnExactMajorityOfRow.holds Try.pinned (OpenSpec.ofChange fnExactMajorityOfWrong)

/- THE SECOND FORM. 'bulk': how many values and letters a reading holds, each counted each time it is reached (what is shared counts as often as it is met; a slice's spare places count too). A statement '..UptoSaid' is the law's where the arguments, and the package variables that the reading takes, are together of bulk at most 1048576: NARROWER than '..Said'. Prove '..Said' where nothing that the law and all that it calls make is longer than what came in: it says more and counts as full. Else prove '..UptoSaid'. A law counts once. -/
mutual
def uptoBulk {H : Type} : DataW H → Nat
  | .lit (.string bytes) => bytes.length + 1
  | .lit _ => 1
  | .nil => 1
  | .ptr d => uptoBulk d + 1
  | .slice elems spare => uptoBulkAll elems + uptoBulkAll spare + 1
  | .agg parts => uptoBulkAll parts + 1
  | .iface _ d => uptoBulk d + 1
  | .map entries => uptoBulkEntries entries + 1
  | .held _ => 1
def uptoBulkAll {H : Type} : List (DataW H) → Nat
  | [] => 0
  | d :: r => uptoBulk d + uptoBulkAll r
def uptoBulkEntries {H : Type} : List (Lit × DataW H) → Nat
  | [] => 0
  | x :: r => uptoBulkEntry x + uptoBulkEntries r
def uptoBulkEntry {H : Type} : Lit × DataW H → Nat
  | (.string bytes, d) => bytes.length + uptoBulk d + 1
  | (_, d) => uptoBulk d + 1
 end
def uptoSmall : (H : Type) → List (DataW H) → Bool := fun _ ds => decide (uptoBulkAll ds ≤ 1048576)
def OpenSpec.upto (s : _root_.Go.ChangeSpec) : _root_.Go.OpenSpec := { _root_.Go.OpenSpec.ofChange s with cond := some uptoSmall }

/-- 'laws.FnOneValue', WHERE WHAT IT READS IS OF BULK AT MOST 1048576: true; the input reads as it did. -/
def fnOneValueUptoRow : OpenClaim := { program := "ytdlodeklheapgaa", sum := "85499d8e20b0e8332a5ce50375d6fbf97cf1a60b3568a61e7f5cc23fca39a445", func := "loop.example/g00274/laws.FnOneValue", spec := "fnOneValue", unfollowed := true, recurses := true, plainKeys := false, apart := false, narrowed := true }
def FnOneValueUptoSaid : Prop := fnOneValueUptoRow.holds Try.pinned (OpenSpec.upto fnOneValueSpec)

/-- 'laws.FnVoters', WHERE WHAT IT READS IS OF BULK AT MOST 1048576: true; the input reads as it did. -/
def fnVotersUptoRow : OpenClaim := { program := "ytdlodeklheapgaa", sum := "85499d8e20b0e8332a5ce50375d6fbf97cf1a60b3568a61e7f5cc23fca39a445", func := "loop.example/g00274/laws.FnVoters", spec := "fnVoters", unfollowed := true, recurses := true, plainKeys := false, apart := false, narrowed := true }
def FnVotersUptoSaid : Prop := fnVotersUptoRow.holds Try.pinned (OpenSpec.upto fnVotersSpec)

/-- 'laws.FnExactNewPaxos', WHERE WHAT IT READS IS OF BULK AT MOST 1048576: true; the input reads as it did. -/
def fnExactNewPaxosUptoRow : OpenClaim := { program := "ytdlodeklheapgaa", sum := "85499d8e20b0e8332a5ce50375d6fbf97cf1a60b3568a61e7f5cc23fca39a445", func := "loop.example/g00274/laws.FnExactNewPaxos", spec := "fnExactNewPaxos", plainKeys := false, apart := false, narrowed := true }
def FnExactNewPaxosUptoSaid : Prop := fnExactNewPaxosUptoRow.holds Try.pinned (OpenSpec.upto fnExactNewPaxosSpec)

/-- 'laws.FnExactGoodPaxos', WHERE WHAT IT READS IS OF BULK AT MOST 1048576: true; the input reads as it did. -/
def fnExactGoodPaxosUptoRow : OpenClaim := { program := "ytdlodeklheapgaa", sum := "85499d8e20b0e8332a5ce50375d6fbf97cf1a60b3568a61e7f5cc23fca39a445", func := "loop.example/g00274/laws.FnExactGoodPaxos", spec := "fnExactGoodPaxos", unfollowed := true, recurses := true, plainKeys := false, apart := false, narrowed := true }
def FnExactGoodPaxosUptoSaid : Prop := fnExactGoodPaxosUptoRow.holds Try.pinned (OpenSpec.upto fnExactGoodPaxosSpec)

/-- 'laws.FnExactChosenIn', WHERE WHAT IT READS IS OF BULK AT MOST 1048576: true; the input reads as it did. -/
def fnExactChosenInUptoRow : OpenClaim := { program := "ytdlodeklheapgaa", sum := "85499d8e20b0e8332a5ce50375d6fbf97cf1a60b3568a61e7f5cc23fca39a445", func := "loop.example/g00274/laws.FnExactChosenIn", spec := "fnExactChosenIn", unfollowed := true, recurses := true, plainKeys := false, apart := false, narrowed := true }
def FnExactChosenInUptoSaid : Prop := fnExactChosenInUptoRow.holds Try.pinned (OpenSpec.upto fnExactChosenInSpec)

/-- 'laws.FnExactBallotFor', WHERE WHAT IT READS IS OF BULK AT MOST 1048576: true; the input reads as it did. -/
def fnExactBallotForUptoRow : OpenClaim := { program := "ytdlodeklheapgaa", sum := "85499d8e20b0e8332a5ce50375d6fbf97cf1a60b3568a61e7f5cc23fca39a445", func := "loop.example/g00274/laws.FnExactBallotFor", spec := "fnExactBallotFor", plainKeys := false, apart := false, narrowed := true }
def FnExactBallotForUptoSaid : Prop := fnExactBallotForUptoRow.holds Try.pinned (OpenSpec.upto fnExactBallotForSpec)

/-- 'laws.FnExactMajorityOf', WHERE WHAT IT READS IS OF BULK AT MOST 1048576: true; the input reads as it did. -/
def fnExactMajorityOfUptoRow : OpenClaim := { program := "ytdlodeklheapgaa", sum := "85499d8e20b0e8332a5ce50375d6fbf97cf1a60b3568a61e7f5cc23fca39a445", func := "loop.example/g00274/laws.FnExactMajorityOf", spec := "fnExactMajorityOf", plainKeys := false, apart := false, narrowed := true }
def FnExactMajorityOfUptoSaid : Prop := fnExactMajorityOfUptoRow.holds Try.pinned (OpenSpec.upto fnExactMajorityOfSpec)

end Rows
end Go.Proofs.Ytdlodeklheapgaa
