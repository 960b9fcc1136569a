/- NatReckons: its walk, in parts. -/
import Derived.Test.YtamknndngjoncaaLawRa
import Derived.Test.YtamknndngjoncaaLawRb
namespace Go.Proofs.Ytamknndngjoncaa
open Go.RowKit

theorem natReckons_small (A B : Option Addr) (n m c c' : Nat) (c0 : Int) (l1 l2 : List Nat) (w : World) (ha : Row w w.heap.size .u64 A n l1) (hb : Row w w.heap.size .u64 B m l2) (ba : Dig.Below LB l1) (bb : Dig.Below LB l2)
    (hn : n ≤ 40) (hm : m ≤ 40) (hnc : n ≤ c) (hmc : m ≤ c') (hcm : c ≤ maxLen) (hcm' : c' ≤ maxLen) :
    Calls Try.prog 4 #[.slice A n c, .slice B m c', .int .i64 c0] w fun e w' => e = .returned (.bool true) ∧ Below w.heap.size w w' := by
  rcases Nat.lt_or_ge (Dig.val LB l1) (Dig.val LB l2) with h | h
  · by_cases hs : Fit c0 (Dig.val LB l1 + Dig.val LB l2)
    · by_cases hp : Fit c0 (Dig.val LB l1 * Dig.val LB l2)
      · exact natReckons_lsp A B n m c c' c0 l1 l2 w ha hb ba bb hn hm hnc hmc hcm hcm' _ _ rfl rfl h hs hp
      · exact natReckons_lsn A B n m c c' c0 l1 l2 w ha hb ba bb hn hm hnc hmc hcm hcm' _ _ rfl rfl h hs hp
    · by_cases hp : Fit c0 (Dig.val LB l1 * Dig.val LB l2)
      · exact natReckons_lnp A B n m c c' c0 l1 l2 w ha hb ba bb hn hm hnc hmc hcm hcm' _ _ rfl rfl h hs hp
      · exact natReckons_lnn A B n m c c' c0 l1 l2 w ha hb ba bb hn hm hnc hmc hcm hcm' _ _ rfl rfl h hs hp
  · by_cases hs : Fit c0 (Dig.val LB l1 + Dig.val LB l2)
    · by_cases hp : Fit c0 (Dig.val LB l1 * Dig.val LB l2)
      · exact natReckons_gsp A B n m c c' c0 l1 l2 w ha hb ba bb hn hm hnc hmc hcm hcm' _ _ rfl rfl h hs hp
      · exact natReckons_gsn A B n m c c' c0 l1 l2 w ha hb ba bb hn hm hnc hmc hcm hcm' _ _ rfl rfl h hs hp
    · by_cases hp : Fit c0 (Dig.val LB l1 * Dig.val LB l2)
      · exact natReckons_gnp A B n m c c' c0 l1 l2 w ha hb ba bb hn hm hnc hmc hcm hcm' _ _ rfl rfl h hs hp
      · exact natReckons_gnn A B n m c c' c0 l1 l2 w ha hb ba bb hn hm hnc hmc hcm hcm' _ _ rfl rfl h hs hp
end Go.Proofs.Ytamknndngjoncaa
