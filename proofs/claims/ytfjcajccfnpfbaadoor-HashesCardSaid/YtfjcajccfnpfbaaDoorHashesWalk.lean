import Derived.Test.YtfjcajccfnpfbaaDoorShaRef
namespace Go.Proofs.YtfjcajccfnpfbaaDoor
open Go.RowKit
open Sha
set_option maxRecDepth 100000 in
set_option maxHeartbeats 1000000 in
theorem hashes_any (s : ByteArray) (hs : s.size ≤ maxLen) (w : World) (hk : KAt w) :
    Calls Tryd.prog 3 #[.string s] w fun e w' => e = .returned (.bool true) ∧ Below w.heap.size w w' := by
  unfold maxLen at hs
  by_cases hbig : (1048576 : Int) < (s.size : Int)
  · go_enter Tryd.func3, Tryd.ntmps3
    go_wp2
    go_ret
    exact ⟨rfl, Below.refl _ _⟩
  · have HP := hide (pHash_any s (by omega) w hk)
    have HR := hide (fun w => rHash_any s (by omega) w)
    generalize sha s.data.toList = R at *
    clear hk
    go_enter Tryd.func3, Tryd.ntmps3
    go_wp2_with fail
    refine HP.out.mono ?_
    rintro e w1 ⟨rfl, hb1⟩
    go_wp2_with fail
    refine (HR.out _).mono ?_
    rintro e w2 ⟨rfl, hb2⟩
    go_wp2_with fail
    go_ret
    exact ⟨by simp, hb1.trans (hb2.mono hb1.size)⟩
end Go.Proofs.YtfjcajccfnpfbaaDoor
