/- 'PrettySame', as a tied card, in its second form: for every input of bulk at most 1048576 the law returns true, and its arguments read afterwards as they read before. Its conditions: the variables of the library that the row lists hold what the program's text lays in them (tied). -/
import Derived.Test.YtejifkeeihkcjaaDoorRows
import Derived.Test.YtejifkeeihkcjaaDoorGLawVb
import Derived.Test.YtejifkeeihkcjaaDoorGOpenA
import Derived.Test.YtejifkeeihkcjaaDoorGLaidQ
import Derived.Test.YtejifkeeihkcjaaDoorTie
import Derived.Test.YtejifkeeihkcjaaDoorCards
import Derived.SevenTiedAt
import Derived.Stop.Joined
import Derived.WalkKit
import Derived.ProofKit
import Derived.OpenShut
import Derived.ShutString
import Derived.ChangeOld
import Derived.Below
import Derived.Carry
import Derived.Deep.DeepHandedRow
import Derived.Deep.DeepWitnessRowRef
namespace Go.Proofs.YtejifkeeihkcjaaDoor.prettySame
open Go.ChangeShapes Go.WideShapes Go.ChangeAt Go.RowKit
open Go.ChangeMaps (open_string shut_string)
set_option linter.unusedVariables false

theorem own : ownKnob Tryd.prog.godebug = none := by kernel_rfl
theorem laidOut : laidOutB Tryd.prog = true := by kernel_rfl

theorem walk (ds0 : List DV) (mn0 : List SV) (A0 : Option Addr) (c0 : Nat) (B0 : Option Addr) (e0 : Nat) (ds1 : List DV) (mn1 : List SV) (A1 : Option Addr) (c1 : Nat) (B1 : Option Addr) (e1 : Nat) (x2 : XV) (A2 : Option Addr) (c2 : Nat) (x3 : XV) (A3 : Option Addr) (c3 : Nat) (w : World) (w0 : DR w A0 ds0) (x0 : SR w B0 mn0) (z0 : CapD w A0 ds0.length) (i0 : ds0.all inD = true) (n0 : ∀ d ∈ ds0, inR d) (m0 : inSs mn0 = true) (y0 : sbk mn0 + dbk ds0 ≤ 1048576) (w1 : DR w A1 ds1) (x1 : SR w B1 mn1) (z1 : CapD w A1 ds1.length) (i1 : ds1.all inD = true) (n1 : ∀ d ∈ ds1, inR d) (m1 : inSs mn1 = true) (y1 : sbk mn1 + dbk ds1 ≤ 1048576) (w2 : XR w A2 x2.gs) (i2 : inX x2 = true) (y2 : xbk1 x2 ≤ 1048576) (w3 : XR w A3 x3.gs) (i3 : inX x3 = true) (y3 : xbk1 x3 ≤ 1048576) (hL : LaidP w) :
    Calls Tryd.prog 3 #[pval A0 ds0.length c0 B0 mn0.length e0, pval A1 ds1.length c1 B1 mn1.length e1, xval x2 A2 c2, xval x3 A3 c3] w fun e w' => e = .returned (.bool true) ∧ Below w.heap.size w w' := by
  exact same7 ds0 mn0 ds1 mn1 x2 x3 (by omega) (by omega) (by omega) (by omega) i0 m0 n0 i1 m1 n1 i2 i3 A0 c0 B0 e0 A1 c1 B1 e1 A2 c2 A3 c3 w hL w0 x0 z0 w1 x1 z1 w2 w3

set_option maxRecDepth 100000 in
theorem contract (H : Type) (enc : TypeId × Value → H) (W : World) (base : Nat) (args : Array Value) (ds gs : List (DataW H)) (before : List MemPlace)
    (hval0 : ∀ (j : Nat) t v, Tryd.f3.params[j]? = some t → args[j]? = some v → Value.okWide Tryd.prog W .any base t v)
    (hW : DataW.Whole enc Tryd.prog Tryd.f3.params.toList Rows.prettySameSpec.vars false W args.toList ds gs before) (hk : Rows.uptoSmall H (ds ++ gs) = true) (hL0 : laidMetH Tryd.prog laidP9 W) :
    Calls Tryd.prog 3 args W fun e W' => ∃ v, e = .returned v ∧ Rows.prettySameSpec.post enc Tryd.prog Tryd.f3 false true false false W args v W' := by
  have hL := laidP9_of hL0
  have hval : ∀ (j : Nat) t v, Tryd.f3.params[j]? = some t → args[j]? = some v → Value.okWide Tryd.prog W .any base t v := hval0
  have hW' := hW
  obtain ⟨p, q, hA0, hV, rfl, hfz, hnd⟩ := hW
  have hA : DataW.TrodAll enc Tryd.prog W 0 (fun _ => true) true Tryd.f3.params.toList args.toList ds p := hA0
  rw [Tryd.params3] at hA hval
  obtain ⟨v0, vs0, d0, ds0, p0, q0, hargs, rfl, rfl, h0, r0⟩ := trodAll_cons hA
  obtain ⟨v1, vs1, d1, ds1, p1, q1, rfl, rfl, rfl, h1, r1⟩ := trodAll_cons r0
  obtain ⟨v2, vs2, d2, ds2, p2, q2, rfl, rfl, rfl, h2, r2⟩ := trodAll_cons r1
  obtain ⟨v3, vs3, d3, ds3, p3, q3, rfl, rfl, rfl, h3, r3⟩ := trodAll_cons r2
  obtain ⟨rfl, rfl, rfl⟩ := trodAll_nil r3
  obtain rfl : args = #[v0, v1, v2, v3] := by cases args; simp_all
  obtain ⟨rfl, rfl⟩ := trodVars_none hV
  have k0 := h0
  have lt0 : ∀ x ∈ p0, x.block < W.heap.size := by obtain ⟨m, hm⟩ := k0; exact DataW.trod_lt m _ _ _ hm
  have k1 := h1
  have lt1 : ∀ x ∈ p1, x.block < W.heap.size := by obtain ⟨m, hm⟩ := k1; exact DataW.trod_lt m _ _ _ hm
  have k2 := h2
  have lt2 : ∀ x ∈ p2, x.block < W.heap.size := by obtain ⟨m, hm⟩ := k2; exact DataW.trod_lt m _ _ _ hm
  have k3 := h3
  have lt3 : ∀ x ∈ p3, x.block < W.heap.size := by obtain ⟨m, hm⟩ := k3; exact DataW.trod_lt m _ _ _ hm
  have hbk := of_decide_eq_true hk
  simp only [List.append_nil, Rows.uptoBulkAll] at hbk
  obtain ⟨ds0, mn0, A0, c0, B0, e0, rfl, w0, x0, z0, i0, n0, m0, y0⟩ := openProgramB (hval 0 25 v0 rfl rfl) h0
  obtain ⟨ds1, mn1, A1, c1, B1, e1, rfl, w1, x1, z1, i1, n1, m1, y1⟩ := openProgramB (hval 1 25 v1 rfl rfl) h1
  obtain ⟨x2, A2, c2, rfl, w2, i2, y2⟩ := openExprB (hval 2 32 v2 rfl rfl) h2
  obtain ⟨x3, A3, c3, rfl, w3, i3, y3⟩ := openExprB (hval 3 32 v3 rfl rfl) h3
  clear hA0 hval0 hk
  refine (walk ds0 mn0 A0 c0 B0 e0 ds1 mn1 A1 c1 B1 e1 x2 A2 c2 x3 A3 c3 W w0 x0 z0 i0 n0 m0 (by omega) w1 x1 z1 i1 n1 m1 (by omega) w2 i2 (by omega) w3 i3 (by omega) hL).mono fun e W' ⟨he, bel⟩ => ?_
  subst he
  exact ⟨_, rfl, _, _, _, [], _, [], hW', trodAll_mk1 (shut_bool Tryd.underlying4 _), (trodAll_cons_mk (Below.trod laidOut (by kernel_rfl) (of_decide_eq_true (by kernel_rfl)) k0 bel lt0) (trodAll_cons_mk (Below.trod laidOut (by kernel_rfl) (of_decide_eq_true (by kernel_rfl)) k1 bel lt1) (trodAll_cons_mk (Below.trod laidOut (by kernel_rfl) (of_decide_eq_true (by kernel_rfl)) k2 bel lt2) (trodAll_cons_mk (Below.trod laidOut (by kernel_rfl) (of_decide_eq_true (by kernel_rfl)) k3 bel lt3) trodAll_mk0)))), rfl, bel.frame _, fun h => by cases h⟩

theorem reads (os : Os) {H : Type} (enc : TypeId × Value → H) : ∃ places, DataW.whole enc Tryd.prog ((World.doorLaid Tryd.prog 4000 os).forCall (fun _ _ => 0) ⟨#[], #[.agg #[.slice none 0 0, .slice none 0 0], .agg #[.slice none 0 0, .slice none 0 0], .agg #[.int .i64 0, .int .i64 0, .string ByteArray.empty, .int .i64 0, .slice none 0 0, .int .i64 0, .int .i64 0], .agg #[.int .i64 0, .int .i64 0, .string ByteArray.empty, .int .i64 0, .slice none 0 0, .int .i64 0, .int .i64 0]], []⟩).memory Tryd.f3.params.toList Rows.prettySameSpec.vars false #[.agg #[.slice none 0 0, .slice none 0 0], .agg #[.slice none 0 0, .slice none 0 0], .agg #[.int .i64 0, .int .i64 0, .string ByteArray.empty, .int .i64 0, .slice none 0 0, .int .i64 0, .int .i64 0], .agg #[.int .i64 0, .int .i64 0, .string ByteArray.empty, .int .i64 0, .slice none 0 0, .int .i64 0, .int .i64 0]].toList 8 = some ([.agg [.nil, .nil], .agg [.nil, .nil], .agg [.lit (.int .i64 0), .lit (.int .i64 0), .lit (.string []), .lit (.int .i64 0), .nil, .agg [.lit (.int .i64 0), .lit (.int .i64 0)]], .agg [.lit (.int .i64 0), .lit (.int .i64 0), .lit (.string []), .lit (.int .i64 0), .nil, .agg [.lit (.int .i64 0), .lit (.int .i64 0)]]], [], places) :=
  ⟨[], by kernel_rfl⟩

set_option maxRecDepth 100000 in
theorem lifted (os : Os) (started : os.Started) (H : Type) (enc : TypeId × Value → H) (F : Stop.Interp) :
    ReturnsInHanded {} Tryd.checked os 3 .any ((Rows.OpenSpec.upto Rows.prettySameSpec).preRow enc Tryd.prog Tryd.f3 Rows.prettySameUptoRow.domain false Rows.prettySameUptoRow.laid) (((Rows.OpenSpec.upto Rows.prettySameSpec).at F).post enc Tryd.prog Tryd.f3 false true false false) := by
  obtain ⟨places, hx⟩ := reads os enc
  refine returnsInHanded_of_row (C := Tryd.checked) (s := Rows.OpenSpec.upto Rows.prettySameSpec) own started (by kernel_rfl) Tryd.func3
    (witness_row_atRef (enc := enc) (C := Tryd.checked) false (World.doorLaid Tryd.prog 4000 os) #[.agg #[.slice none 0 0, .slice none 0 0], .agg #[.slice none 0 0, .slice none 0 0], .agg #[.int .i64 0, .int .i64 0, .string ByteArray.empty, .int .i64 0, .slice none 0 0, .int .i64 0, .int .i64 0], .agg #[.int .i64 0, .int .i64 0, .string ByteArray.empty, .int .i64 0, .slice none 0 0, .int .i64 0, .int .i64 0]] rfl (by kernel_rfl) (by kernel_rfl) (by kernel_rfl)
      (OpenSpec.preRow_of_cond 8 hx (by kernel_rfl) (fun k hk => by cases hk; kernel_rfl) (by kernel_rfl) (door_metP9 os _))) ?_
  intro W base args ds gs before hval hW _ hcond _ hL _ _
  exact contract H enc W base args ds gs before hval hW (hcond _ rfl) hL


theorem rowHolds : Rows.PrettySameUptoSaid :=
  OpenClaim.holds_of_cond 3 Tryd.f3 rfl rfl rfl rfl rfl rfl rfl ⟨rfl, rfl, rfl, rfl, rfl⟩ rfl rfl rfl rfl rfl (by kernel_rfl) Tryd.func3 (by kernel_rfl)
    (of_decide_eq_true (by kernel_rfl)) (by unfold Func.isWrapper; first | (rw [if_pos (by decide +kernel)]; kernel_rfl) | (rw [if_neg (by decide +kernel)]; exact ⟨rfl, rfl⟩))
    (fun os started H enc _ F => by rw [OpenClaim.pre_eq_preRow]; exact lifted os started H enc F)

theorem proved : Rows.PrettySameUptoCardSaid :=
  Claim7.holds_tied_plain_at .later [] [.data, .data, .data, .data, .data, .data, .data, .data, .data] true (true, "b536a7de4ccbeefbcc2be333cc03971e69100f845e4fc3daed1534de12faa49e") false
    rowHolds (fun _ h => by cases h) (by kernel_rfl) (fun _ h => by cases h) prettySameUpto_row_tie rfl ⟨rfl, rfl⟩ (by kernel_rfl) rfl
    (fun f fn hf hfn => by
      obtain rfl : f = 3 := Option.some.inj ((show Tryd.prog.funcNamed "sieveholes/sieveholeslaw07.PrettySame" = some 3 by kernel_rfl).symm.trans hf) |>.symm
      obtain rfl : fn = Tryd.f3 := (Option.some.inj (Tryd.func3.symm.trans hfn)).symm
      exact ⟨by kernel_rfl, fun j t ht => by
        rw [Tryd.params3] at ht
        have hm : t ∈ ([25, 25, 32, 32] : List TypeId) := by simpa using Array.mem_of_getElem? ht
        have hall : (([25, 25, 32, 32] : List TypeId).all fun u => !Tryd.prog.wantsStandIn u) = true := by kernel_rfl
        exact (show Tryd.prog.wantsStandIn t = false by simpa using List.all_eq_true.1 hall t hm)⟩)
    (by kernel_rfl)
end Go.Proofs.YtejifkeeihkcjaaDoor.prettySame
