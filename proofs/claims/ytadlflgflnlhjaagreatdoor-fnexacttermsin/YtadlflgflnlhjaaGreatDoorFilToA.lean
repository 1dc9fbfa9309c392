/- A copied filter reads as the one that came in. -/
import Derived.Test.YtadlflgflnlhjaaGreatDoorFilTo
namespace Go.Proofs.YtadlflgflnlhjaaGreatDoor
open Go.RowKit

theorem TermsTo.arg {t : Nat} {F : Nat → Tm} {w w' : World} {a : Option Addr} {c : Nat} (h : TermsTo t F w a c w') : FArg w' a t F := by
  obtain ⟨_, b, P, Q, _, _, _, hF⟩ := h
  exact hF.arg

end Go.Proofs.YtadlflgflnlhjaaGreatDoor
