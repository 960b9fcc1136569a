/- 'TokenTells', as a tied card: for every input the law returns true, and its arguments read afterwards as they read before. Its conditions: the variables of the library that the row lists hold what the program's text lays in them (tied). -/
import Derived.Test.YthlpldmodflmjaaDoorRows
import Derived.Test.YthlpldmodflmjaaDoorLawTc
import Derived.Test.YthlpldmodflmjaaDoorTok5
import Derived.Test.YthlpldmodflmjaaDoorOpenT
import Derived.Test.YthlpldmodflmjaaDoorLaidR
import Derived.Test.YthlpldmodflmjaaDoorTie
import Derived.Test.YthlpldmodflmjaaDoorCards
import Derived.SevenTiedAt
import Derived.Stop.Joined
import Derived.WalkKit
import Derived.ProofKit
import Derived.OpenShut
import Derived.ShutString
import Derived.ChangeOld
import Derived.Below
import Derived.Carry
namespace Go.Proofs.YthlpldmodflmjaaDoor.tokenTells
open Go.ChangeShapes Go.WideShapes Go.ChangeAt Go.RowKit
open Go.ChangeMaps (open_string shut_string)
set_option linter.unusedVariables false

theorem own : ownKnob Tryd.prog.godebug = none := by kernel_rfl
theorem laidOut : laidOutB Tryd.prog = true := by kernel_rfl

theorem walk (A0 : Option Addr) (m0 c0 : Nat) (tr0 : List TokV) (tk1 : Int) (tx1 : List UInt8) (tn1 tl1 tc1 : Int) (tk2 : Int) (tx2 : List UInt8) (tn2 tl2 tc2 : Int) (w : World) (w0 : m0 ≤ c0) (x0 : c0 ≤ maxLen) (y0 : RowT w A0 m0 tr0) (z0 : ∀ t ∈ tr0, t.x.length ≤ maxLen ∧ in64 t.k ∧ in64 t.n) (w1 : tx1.length ≤ maxLen) (y1 : in64 tk1) (z1 : in64 tn1) (w2 : tx2.length ≤ maxLen) (y2 : in64 tk2) (z2 : in64 tn2) (hL : LaidR w) :
    Calls Tryd.prog 4 #[.slice A0 m0 c0, .agg #[.int .i64 tk1, .string ⟨tx1.toArray⟩, .int .i64 tn1, .int .i64 tl1, .int .i64 tc1], .agg #[.int .i64 tk2, .string ⟨tx2.toArray⟩, .int .i64 tn2, .int .i64 tl2, .int .i64 tc2]] w fun e w' => e = .returned (.bool true) ∧ Below w.heap.size w w' := by
  by_cases hs : m0 ≤ 30 ∧ tx1.length ≤ 60 ∧ tx2.length ≤ 60
  · exact tells_tok tokRight_ tokSame_ tokJoin_ tokAll_ A0 m0 c0 tr0 tk1 tx1 tn1 tl1 tc1 tk2 tx2 tn2 tl2 tc2 w hL y0 hs.1 hs.2.1 hs.2.2 y1 z1 y2 z2 (fun t ht => (z0 t ht).1)
  · exact tells_tok_long tokAll_ A0 m0 c0 tk1 tx1 tn1 tl1 tc1 tk2 tx2 tn2 tl2 tc2 w hL (by omega) (by omega) w1 w2

set_option maxRecDepth 100000 in
theorem lifted (os : Os) (started : os.Started) (H : Type) (enc : TypeId × Value → H) :
    ReturnsInHanded {} Tryd.checked os 4 .any (fun w args => (Rows.tokenTellsSpec.pre enc Tryd.prog Tryd.f4 Rows.tokenTellsRow.domain false w args ∧ laidMetH Tryd.prog laidAll w) ∧ sizedMet enc Tryd.prog Tryd.f4 (OpenSpec.ofChange Rows.tokenTellsSpec) false w args) (Rows.tokenTellsSpec.post enc Tryd.prog Tryd.f4 false true false false) := by
  refine returnsInHanded_of_change_and (C := Tryd.checked) (X := fun w _ => laidMetH Tryd.prog laidAll w) (fun _ _ _ hh h => h.of_heap hh) own started (by kernel_rfl) Tryd.func4
    (ChangeSpec.witness_shaped (enc := enc) (C := Tryd.checked) (os := os) (X := fun w _ => laidMetH Tryd.prog laidAll w) false (World.doorLaid Tryd.prog 4000 os) #[.slice none 0 0, .agg #[.int .i64 0, .string ByteArray.empty, .int .i64 0, .int .i64 0, .int .i64 0], .agg #[.int .i64 0, .string ByteArray.empty, .int .i64 0, .int .i64 0, .int .i64 0]] 8 rfl (World.shaped_of_RefB (by kernel_rfl) (by kernel_rfl)) (by kernel_rfl) (by kernel_rfl) (by kernel_rfl) (door_met os _)) ?_
  intro W base args ds gs before hval0 hW _ _ hL0 _
  have hL := laidR_of hL0
  have hval : ∀ (j : Nat) t v, Tryd.f4.params[j]? = some t → args[j]? = some v → Value.okWide Tryd.prog W .any base t v := hval0
  have hW' := hW
  obtain ⟨p, q, hA0, hV, rfl, hfz, hnd⟩ := hW
  have hA : DataW.TrodAll enc Tryd.prog W 0 (fun _ => true) true Tryd.f4.params.toList args.toList ds p := hA0
  rw [Tryd.params4] at hA hval
  obtain ⟨v0, vs0, d0, ds0, p0, q0, hargs, rfl, rfl, h0, r0⟩ := trodAll_cons hA
  obtain ⟨v1, vs1, d1, ds1, p1, q1, rfl, rfl, rfl, h1, r1⟩ := trodAll_cons r0
  obtain ⟨v2, vs2, d2, ds2, p2, q2, rfl, rfl, rfl, h2, r2⟩ := trodAll_cons r1
  obtain ⟨rfl, rfl, rfl⟩ := trodAll_nil r2
  obtain rfl : args = #[v0, v1, v2] := by cases args; simp_all
  obtain ⟨rfl, rfl⟩ := trodVars_none hV
  have k0 := h0
  have lt0 : ∀ x ∈ p0, x.block < W.heap.size := by obtain ⟨m, hm⟩ := k0; exact DataW.trod_lt m _ _ _ hm
  have k1 := h1
  have lt1 : ∀ x ∈ p1, x.block < W.heap.size := by obtain ⟨m, hm⟩ := k1; exact DataW.trod_lt m _ _ _ hm
  have k2 := h2
  have lt2 : ∀ x ∈ p2, x.block < W.heap.size := by obtain ⟨m, hm⟩ := k2; exact DataW.trod_lt m _ _ _ hm
  obtain ⟨A0, m0, c0, tr0, rfl, w0, x0, y0, z0⟩ := openToks (hval 0 45 v0 rfl rfl) h0
  obtain ⟨tk1, tx1, tn1, tl1, tc1, rfl, w1, y1, z1⟩ := openTok (hval 1 34 v1 rfl rfl) h1
  obtain ⟨tk2, tx2, tn2, tl2, tc2, rfl, w2, y2, z2⟩ := openTok (hval 2 34 v2 rfl rfl) h2
  clear hA0 hval0
  refine (walk A0 m0 c0 tr0 tk1 tx1 tn1 tl1 tc1 tk2 tx2 tn2 tl2 tc2 W w0 x0 y0 z0 w1 y1 z1 w2 y2 z2 hL).mono fun e W' ⟨he, bel⟩ => ?_
  subst he
  exact ⟨_, rfl, _, _, _, [], _, [], hW', trodAll_mk1 (shut_bool Tryd.underlying4 _), (trodAll_cons_mk (Below.trod laidOut (by kernel_rfl) (of_decide_eq_true (by kernel_rfl)) k0 bel lt0) (trodAll_cons_mk (Below.trod laidOut (by kernel_rfl) (of_decide_eq_true (by kernel_rfl)) k1 bel lt1) (trodAll_cons_mk (Below.trod laidOut (by kernel_rfl) (of_decide_eq_true (by kernel_rfl)) k2 bel lt2) trodAll_mk0))), rfl, bel.frame _, fun h => by cases h⟩

theorem over : Rows.tokenTellsRow.holds Tryd.pinned (OpenSpec.ofChange Rows.tokenTellsSpec) :=
  OpenClaim.holds_of_wide 4 Tryd.f4 rfl rfl rfl rfl rfl rfl rfl ⟨rfl, rfl, rfl, rfl, rfl⟩ rfl rfl rfl rfl rfl (by kernel_rfl) Tryd.func4 (by kernel_rfl)
    (of_decide_eq_true (by kernel_rfl)) (by unfold Func.isWrapper; first | (rw [if_pos (by decide +kernel)]; kernel_rfl) | (rw [if_neg (by decide +kernel)]; exact ⟨rfl, rfl⟩))
    (fun os started H enc _ => lifted os started H enc)

theorem rowHolds : Rows.TokenTellsSaid := over

theorem proved : Rows.TokenTellsCardSaid :=
  Claim7.holds_tied_plain_at .later [] [.data, .data, .data, .sentinel, .sentinel] true (true, "8bd61f147aca43e0b38e1e4b3587644d8337adac4d6fbc84d8e675f78ef42b0c") true
    rowHolds (fun _ h => by cases h) (by kernel_rfl) (fun _ h => by cases h) tokenTells_row_tie rfl ⟨rfl, rfl⟩ (by kernel_rfl) rfl
    (fun f fn hf hfn => by
      obtain rfl : f = 4 := Option.some.inj ((show Tryd.prog.funcNamed "sieveholes/sieveholeslaw05.TokenTells" = some 4 by kernel_rfl).symm.trans hf) |>.symm
      obtain rfl : fn = Tryd.f4 := (Option.some.inj (Tryd.func4.symm.trans hfn)).symm
      exact ⟨by kernel_rfl, fun j t ht => by
        rw [Tryd.params4] at ht
        have hm : t ∈ ([45, 34, 34] : List TypeId) := by simpa using Array.mem_of_getElem? ht
        have hall : (([45, 34, 34] : List TypeId).all fun u => !Tryd.prog.wantsStandIn u) = true := by kernel_rfl
        exact (show Tryd.prog.wantsStandIn t = false by simpa using List.all_eq_true.1 hall t hm)⟩)
    (by kernel_rfl)
end Go.Proofs.YthlpldmodflmjaaDoor.tokenTells
