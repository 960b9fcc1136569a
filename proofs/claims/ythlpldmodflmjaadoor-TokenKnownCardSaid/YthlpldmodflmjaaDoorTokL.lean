/- What layer 5 asks of the library's variables: strconv.ErrRange holds an error. -/
import Derived.Test.YthlpldmodflmjaaDoorRefS
import Derived.Lib.LaidTab
namespace Go.Proofs.YthlpldmodflmjaaDoor
open Go.RowKit

/-- Of the library's variables, what token reads: ErrRange holds an error. -/
structure LaidR (w : World) : Prop where
  big : 2 < w.heap.size
  rng : ∃ tp p, w.var? Tryd.prog "strconv.ErrRange" = some #[.iface tp p]
theorem gRngR : Tryd.prog.globalNamed "strconv.ErrRange" = some 2 := by kernel_rfl
theorem LaidR.below {w w' : World} (h : LaidR w) (hb : Below w.heap.size w w') : LaidR w' := by
  have hs := hb.size
  have hg := h.big
  obtain ⟨tq, q, h2⟩ := h.rng
  exact ⟨by omega, tq, q, var?_below hb gRngR hg h2⟩
end Go.Proofs.YthlpldmodflmjaaDoor
