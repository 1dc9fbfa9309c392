/- The law of MajorityOf, walked: over what the program and the specification answer. No condition. -/
import Derived.Test.YtdlodeklheapgaaPxA
import Derived.Test.YtdlodeklheapgaaKSint
namespace Go.Proofs.Ytdlodeklheapgaa
open Go.RowKit
set_option linter.unusedVariables false

set_option maxRecDepth 100000 in
set_option maxHeartbeats 4000000 in
theorem lawMajorityOf_k (x0 : Int) (w : World) (h0 : IntOk x0) :
    Calls Try.prog 9 #[.int .i64 x0] w fun e w' => e = .returned (.bool true) ∧ Below w.heap.size w w' := by
  show Calls Try.prog 9 #[.int .i64 x0] w _
  go_enter Try.func9, Try.ntmps9
  obtain ⟨y0, hy0⟩ : ∃ y, y = (fMajorityOf x0).1 := ⟨_, rfl⟩
  have HY0 : Hid (y0 = (fMajorityOf x0).1) := hy0
  clear hy0
  obtain ⟨y1, hy1⟩ : ∃ y, y = (fMajorityOf x0).2 := ⟨_, rfl⟩
  have HY1 : Hid (y1 = (fMajorityOf x0).2) := hy1
  clear hy1
  go_wp2_with fail
  refine (specMajorityOf_k x0 _ h0).mono ?_
  rintro e w1 ⟨rfl, _, hb⟩
  rw [← HY0.out]
  rw [← HY1.out]
  have Bw1 : Below w.heap.size w w1 := hb
  have zzw1 := Bw1.size
  have HB1 : Hid (Below w.heap.size w w1) := Bw1
  clear hb Bw1
  go_wp2_with fail
  refine (implMajorityOf_k x0 _ h0).mono ?_
  rintro e w2 ⟨rfl, _, hb⟩
  rw [← HY0.out]
  rw [← HY1.out]
  have Bw2 : Below w1.heap.size w1 w2 := hb
  have zzw2 := Bw2.size
  have HB2 : Hid (Below w.heap.size w w2) := HB1.out.trans (Bw2.mono HB1.out.size)
  clear HB1 hb Bw2
  go_wp2
  go_ret
  exact ⟨rfl, HB2.out⟩

end Go.Proofs.Ytdlodeklheapgaa
