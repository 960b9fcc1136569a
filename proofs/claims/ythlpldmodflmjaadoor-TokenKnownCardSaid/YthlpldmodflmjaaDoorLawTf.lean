/- The law TokenBack where it asks nothing. -/
import Derived.Test.YthlpldmodflmjaaDoorLawTa
namespace Go.Proofs.YthlpldmodflmjaaDoor
open Go.RowKit

set_option maxHeartbeats 1000000 in
set_option maxRecDepth 100000 in
theorem back_tok_long (hAl : TokAllC) (s : ByteArray) (A2 : Option Addr) (m c0 : Nat) (w : World) (hL : LaidR w) (h : 400 < s.size ∨ 30 < m) (hs : s.size ≤ maxLen) (hm : m ≤ maxLen) :
    Calls Tryd.prog 5 #[.string s, .slice A2 m c0] w fun e w' => e = .returned (.bool true) ∧ Below w.heap.size w w' := by
  unfold maxLen at hs hm
  have hq := works_tok hAl w hL
  clear hAl hL
  by_cases h1 : 400 < s.size
  · have h1' : (400 : Int) < s.size := by omega
    clear h
    go_enter Tryd.func5, Tryd.ntmps5
    go_wp2_with fail
    refine hq.mono ?_
    rintro e w1 ⟨rfl, hb1⟩
    go_wp2_with fail
    go_ret
    exact ⟨by first | rfl | simp, hb1⟩
  · have h1' : ¬ (400 : Int) < s.size := by omega
    have h2' : (30 : Int) < m := by omega
    clear h
    go_enter Tryd.func5, Tryd.ntmps5
    go_wp2_with fail
    refine hq.mono ?_
    rintro e w1 ⟨rfl, hb1⟩
    go_wp2_with fail
    go_ret
    exact ⟨by first | rfl | simp, hb1⟩
end Go.Proofs.YthlpldmodflmjaaDoor
