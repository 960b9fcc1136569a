/- NatReckons: its walk, in parts. -/
import Derived.Test.YtamknndngjoncaaLawR0
namespace Go.Proofs.Ytamknndngjoncaa
open Go.RowKit

set_option maxRecDepth 100000 in
set_option maxHeartbeats 4000000 in
theorem natReckons_gsp (A B : Option Addr) (n m c c' : Nat) (c0 : Int) (l1 l2 : List Nat) (w : World) (ha : Row w w.heap.size .u64 A n l1) (hb : Row w w.heap.size .u64 B m l2) (ba : Dig.Below LB l1) (bb : Dig.Below LB l2)
    (hn : n ≤ 40) (hm : m ≤ 40) (hnc : n ≤ c) (hmc : m ≤ c') (hcm : c ≤ maxLen) (hcm' : c' ≤ maxLen) (X Y : Nat) (hX : Hid (Dig.val LB l1 = X)) (hY : Hid (Dig.val LB l2 = Y)) (e0 : Hid (Y ≤ X)) (e2 : Hid (Fit c0 (X + Y))) (e3 : Hid (Fit c0 (X * Y))) :
    Calls Try.prog 4 #[.slice A n c, .slice B m c', .int .i64 c0] w fun e w' => e = .returned (.bool true) ∧ Below w.heap.size w w' := by
  have e4 := Lib.hid (sum_mid X Y)
  obtain ⟨z, hz1, hz2⟩ : ∃ z : Int, cmpI X Y = z ∧ 0 ≤ z := ⟨_, rfl, by have := e0.out; unfold cmpI; rw [if_neg (by omega)]; split <;> omega⟩
  have e1 := Lib.hid hz1
  have hz3 : decide (z < 0) = false := by simp; omega
  clear hz1 hz2
  go_enter Try.func4, Try.ntmps4
  go_wp2_with fail
  refine (refOf A n c l1 _ ha ba (by omega)).mono ?_
  rintro e v1 ⟨Ax, nx, cx, rfl, rx, hnx, hW⟩
  go_wp2_with fail
  refine (refOf B m c' l2 _ ((hb.below hW).more hW.size) bb (by omega)).mono ?_
  rintro e v2 ⟨Ay, ny, cy, rfl, ry, hny, hb2⟩
  rw [hX.out] at rx
  rw [hY.out] at ry
  replace rx := rx.below hb2
  replace hW := bstep0 hW hb2
  have ra := (ha.below hW).more hW.size
  have rb := (hb.below hW).more hW.size
  clear hb2 ha hb
  go_wp2_with fail
  refine (natLimbs A n c l1 _ ra ba hnc hcm (by omega)).mono ?_
  rintro e v3 ⟨A1, n1, c1, rfl, hp, hn1, hb3⟩
  rw [hX.out] at hp
  replace rx := rx.below hb3
  replace ry := ry.below hb3
  replace hW := bstep0 hW hb3
  replace rb := (rb.below hb3).more hb3.size
  clear ra hb3
  go_wp2_with fail
  refine (natLimbs B m c' l2 _ rb bb hmc hcm' (by omega)).mono ?_
  rintro e v4 ⟨A2, n2, c2, rfl, hq, hn2, hb4⟩
  rw [hY.out] at hq
  replace rx := rx.below hb4
  replace ry := ry.below hb4
  replace hp := hp.below hb4
  replace hW := bstep0 hW hb4
  clear rb hb4
  have hn1' : n1 ≤ 1000 := by omega
  have hn2' : n2 ≤ 1000 := by omega
  have hnx' : nx ≤ 320 := by omega
  have hny' : ny ≤ 320 := by omega
  have hn1 : n1 ≤ 40 := by omega
  have hn2 : n2 ≤ 40 := by omega
  clear hnx hny
  go_wp2_with fail
  have hb5 : Below v4.heap.size v4 ((v4.alloc (.cells #[.slice A1 n1 c1] 28)).alloc (.cells #[.slice A2 n2 c2] 28)) := by go_grown
  have hp : Bk ((v4.alloc (.cells #[.slice A1 n1 c1] 28)).alloc (.cells #[.slice A2 n2 c2] 28)) v4.heap.size A1 n1 c1 _ X := ⟨by simp [go_sem], by simp [go_sem], hp.below hb5⟩
  have hq : Bk ((v4.alloc (.cells #[.slice A1 n1 c1] 28)).alloc (.cells #[.slice A2 n2 c2] 28)) (v4.heap.size + 1) A2 n2 c2 _ Y := ⟨by simp [go_sem], by simp [go_sem], hq.below hb5⟩
  replace rx := rx.below hb5
  replace ry := ry.below hb5
  replace hW := bstep0 hW hb5
  clear hb5
  generalize (v4.alloc (.cells #[.slice A1 n1 c1] 28)).alloc (.cells #[.slice A2 n2 c2] 28) = V at *
  generalize v4.heap.size + 1 = gq at *
  generalize v4.heap.size = gp at *
  refine (refAdd rx ry (by omega) (by omega)).mono ?_
  rintro e v5 ⟨As, ns, cs, rfl, rs, hns, hb5⟩
  replace hp := hp.below hb5
  replace hq := hq.below hb5
  replace rx := rx.below hb5
  replace ry := ry.below hb5
  replace hW := bstep0 hW hb5
  clear hb5
  go_wp2_with fail
  refine (refMul rx ry (by omega) (by omega)).mono ?_
  rintro e v6 ⟨Am, nm, cm, rfl, rm, hnm, hb6⟩
  replace hp := hp.below hb6
  replace hq := hq.below hb6
  replace rx := rx.below hb6
  replace ry := ry.below hb6
  replace rs := rs.below hb6
  replace hW := bstep0 hW hb6
  clear hb6
  have hns' : ns ≤ 1000 := by omega
  have hnm' : nm ≤ 1000 := by omega
  clear hns hnm
  have kp := hp.cell
  have kq := hq.cell
  go_wp2_with fail
  clear kp kq
  refine (natSub hp.num hq.num e0.out (by omega) (by omega)).mono ?_
  rintro e v11 ⟨Af, nf, cf, rfl, hnf, hnn, hb11⟩
  replace hp := hp.below hb11
  replace hq := hq.below hb11
  replace rx := rx.below hb11
  replace ry := ry.below hb11
  replace rs := rs.below hb11
  replace rm := rm.below hb11
  replace hW := bstep0 hW hb11
  clear hb11
  have hnf1 : nf ≤ 1000 := by omega
  clear hnn
  have kp := hp.cell
  have tp := hp.lt
  have kq := hq.cell
  have tq := hq.lt
  go_wp2_with fail
  clear kp tp kq tq
  have hnb := (Below.refl v11.heap.size v11).alloc (Nat.le_refl _) (.cells #[.slice Af nf cf] 28)
  have hf := Bk.new hnf
  replace hp := hp.below hnb
  replace hq := hq.below hnb
  replace rx := rx.below hnb
  replace ry := ry.below hnb
  replace rs := rs.below hnb
  replace rm := rm.below hnb
  replace hW := bstep0 hW hnb
  clear hnb
  clear hnf
  generalize v11.alloc (.cells #[.slice Af nf cf] 28) = Vf at *
  generalize v11.heap.size = gf at *
  refine (natCmpZ rx ry e1.out).mono ?_
  rintro e v12 ⟨rfl, hb12⟩
  replace hp := hp.below hb12
  replace hq := hq.below hb12
  replace hf := hf.below hb12
  replace rx := rx.below hb12
  replace ry := ry.below hb12
  replace rs := rs.below hb12
  replace rm := rm.below hb12
  replace hW := bstep0 hW hb12
  clear hb12
  have kp := hp.cell
  have tp := hp.lt
  have kq := hq.cell
  have tq := hq.lt
  have kf := hf.cell
  have tf := hf.lt
  go_wp2_with fail
  clear kp tp kq tq kf tf
  replace hp := hp.below ((Below.refl _ _).drew)
  replace hq := hq.below ((Below.refl _ _).drew)
  replace hf := hf.below ((Below.refl _ _).drew)
  replace rx := rx.below ((Below.refl _ _).drew)
  replace ry := ry.below ((Below.refl _ _).drew)
  replace rs := rs.below ((Below.refl _ _).drew)
  replace rm := rm.below ((Below.refl _ _).drew)
  replace hW := bstep0 hW ((Below.refl _ _).drew)
  refine wp_region_noPanic ?_
  refine wp_region_held_drew (S := fun w' => w'.cell? ⟨gf, 0, none⟩ = some (.slice Af nf cf)) (by kernel_rfl) (hf.cell) (fun hHeld => ?_)
  refine wpAnyH_take (i := 0) (oi := { dst := some 53, op := Go.Op.move (Go.Operand.tmp 15), type := 4, pos := "law.go:76", after := #[], guard := none }) (v := ?_) rfl (by kernel_rfl) (by kernel_rfl) (by kernel_rfl) (fun _ _ _ h => h) (Or.inl ⟨by rfl, ?_⟩) hHeld ?_
  rotate_left 1
  · (intro w hSw; (try dsimp only at hSw); go_simp; (try with_reducible rfl))
  simp only [Act.put, List.setIfInBounds_toArray, List.set_cons_succ, List.set_cons_zero]
  refine wpAnyH_take (i := 1) (oi := { dst := some 54, op := Go.Op.move (Go.Operand.tmp 14), type := 40, pos := "law.go:76", after := #[], guard := none }) (v := ?_) rfl (by kernel_rfl) (by kernel_rfl) (by kernel_rfl) (fun _ _ _ h => h) (Or.inl ⟨by rfl, ?_⟩) hHeld ?_
  rotate_left 1
  · (intro w hSw; (try dsimp only at hSw); go_simp; (try with_reducible rfl))
  simp only [Act.put, List.setIfInBounds_toArray, List.set_cons_succ, List.set_cons_zero]
  refine wpAnyH_take (i := 2) (oi := { dst := some 55, op := Go.Op.binOp Go.BinOp.eql 40 (Go.Operand.tmp 54) (Go.Operand.const (Go.Value.int Go.IntKind.i64 11)) 40, type := 4, pos := "law.go:76", after := #[{ on := 1, ground := Go.Ground.data }], guard := none }) (v := ?_) rfl (by kernel_rfl) (by kernel_rfl) (by kernel_rfl) (fun _ _ _ h => h) (Or.inl ⟨by rfl, ?_⟩) hHeld ?_
  rotate_left 1
  · (intro w hSw; (try dsimp only at hSw); go_simp; (try with_reducible rfl))
  simp only [Act.put, List.setIfInBounds_toArray, List.set_cons_succ, List.set_cons_zero]
  refine wpAnyH_take (i := 3) (oi := { dst := some 56, op := Go.Op.binOp Go.BinOp.neq 4 (Go.Operand.tmp 53) (Go.Operand.tmp 55) 4, type := 4, pos := "law.go:76", after := #[{ on := 0, ground := Go.Ground.data }, { on := 2, ground := Go.Ground.data }], guard := none }) (v := ?_) rfl (by kernel_rfl) (by kernel_rfl) (by kernel_rfl) (fun _ _ _ h => h) (Or.inl ⟨by rfl, ?_⟩) hHeld ?_
  rotate_left 1
  · (intro w hSw; (try dsimp only at hSw); go_simp; (try with_reducible rfl))
  simp only [Act.put, List.setIfInBounds_toArray, List.set_cons_succ, List.set_cons_zero]
  refine wpAnyH_take (i := 4) (oi := { dst := some 57, op := Go.Op.move (Go.Operand.tmp 56), type := 4, pos := "law.go:76", after := #[{ on := 3, ground := Go.Ground.data }], guard := none }) (v := ?_) rfl (by kernel_rfl) (by kernel_rfl) (by kernel_rfl) (fun _ _ _ h => h) (Or.inl ⟨by rfl, ?_⟩) hHeld ?_
  rotate_left 1
  · (intro w hSw; (try dsimp only at hSw); go_simp; (try with_reducible rfl))
  simp only [Act.put, List.setIfInBounds_toArray, List.set_cons_succ, List.set_cons_zero]
  refine wpAnyH_take (i := 5) (oi := { dst := some 58, op := Go.Op.move (Go.Operand.tmp 15), type := 4, pos := "law.go:76", after := #[{ on := 4, ground := Go.Ground.guard }], guard := some (4, false) }) (v := ?_) rfl (by kernel_rfl) (by kernel_rfl) (by kernel_rfl) (fun _ _ _ h => h) (Or.inl ⟨by rfl, ?_⟩) hHeld ?_
  rotate_left 1
  · (intro w hSw; (try dsimp only at hSw); go_simp; (try with_reducible rfl))
  simp only [Act.put, List.setIfInBounds_toArray, List.set_cons_succ, List.set_cons_zero]
  refine wpAnyH_take (i := 6) (oi := { dst := some 59, op := Go.Op.unOp Go.UnOp.not 4 (Go.Operand.tmp 58), type := 4, pos := "law.go:76", after := #[{ on := 5, ground := Go.Ground.data }, { on := 4, ground := Go.Ground.guard }], guard := some (4, false) }) (v := ?_) rfl (by kernel_rfl) (by kernel_rfl) (by kernel_rfl) (fun _ _ _ h => h) (Or.inl ⟨by rfl, ?_⟩) hHeld ?_
  rotate_left 1
  · (intro w hSw; (try dsimp only at hSw); go_simp; (try with_reducible rfl))
  simp only [Act.put, List.setIfInBounds_toArray, List.set_cons_succ, List.set_cons_zero]
  refine wpAnyH_take (i := 7) (oi := { dst := some 60, op := Go.Op.move (Go.Operand.tmp 59), type := 4, pos := "law.go:76", after := #[{ on := 6, ground := Go.Ground.data }, { on := 4, ground := Go.Ground.chain }, { on := 4, ground := Go.Ground.guard }], guard := some (4, false) }) (v := ?_) rfl (by kernel_rfl) (by kernel_rfl) (by kernel_rfl) (fun _ _ _ h => h) (Or.inl ⟨by rfl, ?_⟩) hHeld ?_
  rotate_left 1
  · (intro w hSw; (try dsimp only at hSw); go_simp; (try with_reducible rfl))
  simp only [Act.put, List.setIfInBounds_toArray, List.set_cons_succ, List.set_cons_zero]
  refine wpAnyH_take (i := 8) (oi := { dst := some 61, op := Go.Op.move (Go.Operand.tmp 14), type := 40, pos := "law.go:76", after := #[{ on := 7, ground := Go.Ground.guard }], guard := some (7, true) }) (v := ?_) rfl (by kernel_rfl) (by kernel_rfl) (by kernel_rfl) (fun _ _ _ h => h) (Or.inl ⟨by rfl, ?_⟩) hHeld ?_
  rotate_left 1
  · (intro w hSw; (try dsimp only at hSw); go_simp; (try with_reducible rfl))
  simp only [Act.put, List.setIfInBounds_toArray, List.set_cons_succ, List.set_cons_zero]
  refine wpAnyH_take (i := 9) (oi := { dst := some 62, op := Go.Op.binOp Go.BinOp.neq 40 (Go.Operand.tmp 61) (Go.Operand.const (Go.Value.int Go.IntKind.i64 0)) 40, type := 4, pos := "law.go:76", after := #[{ on := 8, ground := Go.Ground.data }, { on := 7, ground := Go.Ground.guard }], guard := some (7, true) }) (v := ?_) rfl (by kernel_rfl) (by kernel_rfl) (by kernel_rfl) (fun _ _ _ h => h) (Or.inl ⟨by rfl, ?_⟩) hHeld ?_
  rotate_left 1
  · (intro w hSw; (try dsimp only at hSw); go_simp; (try with_reducible rfl))
  simp only [Act.put, List.setIfInBounds_toArray, List.set_cons_succ, List.set_cons_zero]
  refine wpAnyH_take (i := 10) (oi := { dst := some 63, op := Go.Op.move (Go.Operand.tmp 62), type := 4, pos := "law.go:76", after := #[{ on := 9, ground := Go.Ground.data }, { on := 7, ground := Go.Ground.chain }, { on := 7, ground := Go.Ground.guard }], guard := some (7, true) }) (v := ?_) rfl (by kernel_rfl) (by kernel_rfl) (by kernel_rfl) (fun _ _ _ h => h) (Or.inl ⟨by rfl, ?_⟩) hHeld ?_
  rotate_left 1
  · (intro w hSw; (try dsimp only at hSw); go_simp; (try with_reducible rfl))
  simp only [Act.put, List.setIfInBounds_toArray, List.set_cons_succ, List.set_cons_zero]
  refine wpAnyH_take (i := 11) (oi := { dst := some 64, op := Go.Op.load 28 (Go.Operand.tmp 13), type := 28, pos := "law.go:76", after := #[{ on := 10, ground := Go.Ground.guard }], guard := some (10, false) }) (v := ?_) rfl (by kernel_rfl) (by kernel_rfl) (by kernel_rfl) (fun _ _ _ h => h) (Or.inl ⟨by rfl, ?_⟩) hHeld ?_
  rotate_left 1
  · (intro w hSw; (try dsimp only at hSw); go_simp; (try with_reducible rfl))
  simp only [Act.put, List.setIfInBounds_toArray, List.set_cons_succ, List.set_cons_zero]
  refine wpAnyH_take (i := 12) (oi := { dst := some 65, op := Go.Op.move (Go.Operand.tmp 7), type := 25, pos := "law.go:76", after := #[{ on := 10, ground := Go.Ground.guard }], guard := some (10, false) }) (v := ?_) rfl (by kernel_rfl) (by kernel_rfl) (by kernel_rfl) (fun _ _ _ h => h) (Or.inl ⟨by rfl, ?_⟩) hHeld ?_
  rotate_left 1
  · (intro w hSw; (try dsimp only at hSw); go_simp; (try with_reducible rfl))
  simp only [Act.put, List.setIfInBounds_toArray, List.set_cons_succ, List.set_cons_zero]
  refine wpAnyH_take (i := 13) (oi := { dst := some 66, op := Go.Op.move (Go.Operand.tmp 8), type := 25, pos := "law.go:76", after := #[{ on := 10, ground := Go.Ground.guard }], guard := some (10, false) }) (v := ?_) rfl (by kernel_rfl) (by kernel_rfl) (by kernel_rfl) (fun _ _ _ h => h) (Or.inl ⟨by rfl, ?_⟩) hHeld ?_
  rotate_left 1
  · (intro w hSw; (try dsimp only at hSw); go_simp; (try with_reducible rfl))
  simp only [Act.put, List.setIfInBounds_toArray, List.set_cons_succ, List.set_cons_zero]
  refine wpAnyH_ready (rs := [14]) (by kernel_rfl) (by simp) ?_
  refine AllReadyH.cons (o := { dst := some 67, op := Go.Op.call { callee := Go.Callee.value (Go.Operand.func 20), args := #[Go.Operand.tmp 65, Go.Operand.tmp 66], argTypes := #[25, 25] }, type := 25, pos := "law.go:76", after := #[{ on := 12, ground := Go.Ground.data }, { on := 13, ground := Go.Ground.data }, { on := 10, ground := Go.Ground.chain }, { on := 10, ground := Go.Ground.guard }], guard := some (10, false) }) rfl (fun K hK => ?_) AllReadyH.nil
  go_simp
  refine (refSub rx ry e0.out (by omega)).mono ?_
  rintro e vr1 ⟨Ad, nd, cd, rfl, rd, hnd, hbr1⟩
  replace hp := hp.below hbr1
  replace hq := hq.below hbr1
  replace hf := hf.below hbr1
  replace rx := rx.below hbr1
  replace ry := ry.below hbr1
  replace rs := rs.below hbr1
  replace rm := rm.below hbr1
  replace hW := bstep0 hW hbr1
  clear hbr1
  refine hK.out _ _ (hf.cell) (fun hHeld => ?_)
  clear hK K
  refine wpAnyH_ready (rs := [15]) (by kernel_rfl) (by simp) ?_
  refine AllReadyH.cons (o := { dst := some 68, op := Go.Op.call { callee := Go.Callee.value (Go.Operand.func 12), args := #[Go.Operand.tmp 64, Go.Operand.tmp 67], argTypes := #[28, 25] }, type := 4, pos := "law.go:76", after := #[{ on := 11, ground := Go.Ground.data }, { on := 14, ground := Go.Ground.data }, { on := 14, ground := Go.Ground.chain }, { on := 10, ground := Go.Ground.guard }], guard := some (10, false) }) rfl (fun K hK => ?_) AllReadyH.nil
  go_simp
  refine (isYes hf.num rd (by omega)).mono ?_
  rintro e vr2 ⟨rfl, hbr2⟩
  replace hp := hp.below hbr2
  replace hq := hq.below hbr2
  replace hf := hf.below hbr2
  replace rx := rx.below hbr2
  replace ry := ry.below hbr2
  replace rs := rs.below hbr2
  replace rm := rm.below hbr2
  replace hW := bstep0 hW hbr2
  clear hbr2
  refine hK.out _ _ (hf.cell) (fun hHeld => ?_)
  clear hK K
  refine wpAnyH_take (i := 16) (oi := { dst := some 69, op := Go.Op.unOp Go.UnOp.not 4 (Go.Operand.tmp 68), type := 4, pos := "law.go:76", after := #[{ on := 15, ground := Go.Ground.data }, { on := 10, ground := Go.Ground.guard }], guard := some (10, false) }) (v := ?_) rfl (by kernel_rfl) (by kernel_rfl) (by kernel_rfl) (fun _ _ _ h => h) (Or.inl ⟨by rfl, ?_⟩) hHeld ?_
  rotate_left 1
  · (intro w hSw; (try dsimp only at hSw); go_simp; (try with_reducible rfl))
  simp only [Act.put, List.setIfInBounds_toArray, List.set_cons_succ, List.set_cons_zero]
  refine wpAnyH_take (i := 17) (oi := { dst := some 70, op := Go.Op.pick (Go.Operand.tmp 63) (Go.Operand.const (Go.Value.bool true)) (Go.Operand.tmp 69), type := 4, pos := "law.go:76", after := #[{ on := 10, ground := Go.Ground.data }, { on := 16, ground := Go.Ground.data }, { on := 7, ground := Go.Ground.guard }], guard := some (7, true) }) (v := ?_) rfl (by kernel_rfl) (by kernel_rfl) (by kernel_rfl) (fun _ _ _ h => h) (Or.inl ⟨by rfl, ?_⟩) hHeld ?_
  rotate_left 1
  · (intro w hSw; (try dsimp only at hSw); go_simp; (try with_reducible rfl))
  simp only [Act.put, List.setIfInBounds_toArray, List.set_cons_succ, List.set_cons_zero]
  refine wpAnyH_take (i := 18) (oi := { dst := some 71, op := Go.Op.pick (Go.Operand.tmp 60) (Go.Operand.tmp 70) (Go.Operand.const (Go.Value.bool false)), type := 4, pos := "law.go:76", after := #[{ on := 7, ground := Go.Ground.data }, { on := 17, ground := Go.Ground.data }, { on := 4, ground := Go.Ground.guard }], guard := some (4, false) }) (v := ?_) rfl (by kernel_rfl) (by kernel_rfl) (by kernel_rfl) (fun _ _ _ h => h) (Or.inl ⟨by rfl, ?_⟩) hHeld ?_
  rotate_left 1
  · (intro w hSw; (try dsimp only at hSw); go_simp; (try with_reducible rfl))
  simp only [Act.put, List.setIfInBounds_toArray, List.set_cons_succ, List.set_cons_zero]
  refine wpAnyH_take (i := 19) (oi := { dst := some 72, op := Go.Op.pick (Go.Operand.tmp 57) (Go.Operand.const (Go.Value.bool true)) (Go.Operand.tmp 71), type := 4, pos := "law.go:76", after := #[{ on := 4, ground := Go.Ground.data }, { on := 18, ground := Go.Ground.data }], guard := none }) (v := ?_) rfl (by kernel_rfl) (by kernel_rfl) (by kernel_rfl) (fun _ _ _ h => h) (Or.inl ⟨by rfl, ?_⟩) hHeld ?_
  rotate_left 1
  · (intro w hSw; (try dsimp only at hSw); go_simp; (try with_reducible rfl))
  simp only [Act.put, List.setIfInBounds_toArray, List.set_cons_succ, List.set_cons_zero]
  refine wpAnyH_take (i := 20) (oi := { dst := some 73, op := Go.Op.move (Go.Operand.tmp 72), type := 4, pos := "law.go:76", after := #[{ on := 19, ground := Go.Ground.data }, { on := 15, ground := Go.Ground.chain }], guard := none }) (v := ?_) rfl (by kernel_rfl) (by kernel_rfl) (by kernel_rfl) (fun _ _ _ h => h) (Or.inl ⟨by rfl, ?_⟩) hHeld ?_
  rotate_left 1
  · (intro w hSw; (try dsimp only at hSw); go_simp; (try with_reducible rfl))
  simp only [Act.put, List.setIfInBounds_toArray, List.set_cons_succ, List.set_cons_zero]
  refine wpAnyH_take (i := 21) (oi := { dst := some 74, op := Go.Op.move (Go.Operand.tmp 15), type := 4, pos := "law.go:76", after := #[{ on := 20, ground := Go.Ground.guard }], guard := some (20, false) }) (v := ?_) rfl (by kernel_rfl) (by kernel_rfl) (by kernel_rfl) (fun _ _ _ h => h) (Or.inl ⟨by rfl, ?_⟩) hHeld ?_
  rotate_left 1
  · (intro w hSw; (try dsimp only at hSw); go_simp; (try with_reducible rfl))
  simp only [Act.put, List.setIfInBounds_toArray, List.set_cons_succ, List.set_cons_zero]
  refine wpAnyH_take (i := 22) (oi := { dst := some 75, op := Go.Op.move (Go.Operand.tmp 74), type := 4, pos := "law.go:76", after := #[{ on := 21, ground := Go.Ground.data }, { on := 20, ground := Go.Ground.chain }, { on := 20, ground := Go.Ground.guard }], guard := some (20, false) }) (v := ?_) rfl (by kernel_rfl) (by kernel_rfl) (by kernel_rfl) (fun _ _ _ h => h) (Or.inl ⟨by rfl, ?_⟩) hHeld ?_
  rotate_left 1
  · (intro w hSw; (try dsimp only at hSw); go_simp; (try with_reducible rfl))
  simp only [Act.put, List.setIfInBounds_toArray, List.set_cons_succ, List.set_cons_zero]
  refine wpAnyH_take (i := 23) (oi := { dst := some 76, op := Go.Op.load 28 (Go.Operand.tmp 13), type := 28, pos := "law.go:76", after := #[{ on := 22, ground := Go.Ground.guard }], guard := some (22, true) }) (v := undef) rfl (by kernel_rfl) (by kernel_rfl) (by kernel_rfl) (fun _ _ _ h => h) (Or.inr ⟨by rfl, rfl⟩) hHeld ?_
  simp only [Act.put, List.setIfInBounds_toArray, List.set_cons_succ, List.set_cons_zero]
  refine wpAnyH_take (i := 24) (oi := { dst := some 77, op := Go.Op.call { callee := Go.Callee.value (Go.Operand.func 12), args := #[Go.Operand.tmp 76, Go.Operand.const (Go.Value.slice none 0 0)], argTypes := #[28, 25] }, type := 4, pos := "law.go:76", after := #[{ on := 23, ground := Go.Ground.data }, { on := 22, ground := Go.Ground.chain }, { on := 22, ground := Go.Ground.guard }], guard := some (22, true) }) (v := undef) rfl (by kernel_rfl) (by kernel_rfl) (by kernel_rfl) (fun _ _ _ h => h) (Or.inr ⟨by rfl, rfl⟩) hHeld ?_
  simp only [Act.put, List.setIfInBounds_toArray, List.set_cons_succ, List.set_cons_zero]
  refine wpAnyH_take (i := 25) (oi := { dst := some 78, op := Go.Op.unOp Go.UnOp.not 4 (Go.Operand.tmp 77), type := 4, pos := "law.go:76", after := #[{ on := 24, ground := Go.Ground.data }, { on := 22, ground := Go.Ground.guard }], guard := some (22, true) }) (v := undef) rfl (by kernel_rfl) (by kernel_rfl) (by kernel_rfl) (fun _ _ _ h => h) (Or.inr ⟨by rfl, rfl⟩) hHeld ?_
  simp only [Act.put, List.setIfInBounds_toArray, List.set_cons_succ, List.set_cons_zero]
  refine wpAnyH_take (i := 26) (oi := { dst := some 79, op := Go.Op.pick (Go.Operand.tmp 75) (Go.Operand.tmp 78) (Go.Operand.const (Go.Value.bool false)), type := 4, pos := "law.go:76", after := #[{ on := 22, ground := Go.Ground.data }, { on := 25, ground := Go.Ground.data }, { on := 20, ground := Go.Ground.guard }], guard := some (20, false) }) (v := ?_) rfl (by kernel_rfl) (by kernel_rfl) (by kernel_rfl) (fun _ _ _ h => h) (Or.inl ⟨by rfl, ?_⟩) hHeld ?_
  rotate_left 1
  · (intro w hSw; (try dsimp only at hSw); go_simp; (try with_reducible rfl))
  simp only [Act.put, List.setIfInBounds_toArray, List.set_cons_succ, List.set_cons_zero]
  refine wpAnyH_take (i := 27) (oi := { dst := some 80, op := Go.Op.pick (Go.Operand.tmp 73) (Go.Operand.const (Go.Value.bool true)) (Go.Operand.tmp 79), type := 4, pos := "law.go:76", after := #[{ on := 20, ground := Go.Ground.data }, { on := 26, ground := Go.Ground.data }], guard := none }) (v := ?_) rfl (by kernel_rfl) (by kernel_rfl) (by kernel_rfl) (fun _ _ _ h => h) (Or.inl ⟨by rfl, ?_⟩) hHeld ?_
  rotate_left 1
  · (intro w hSw; (try dsimp only at hSw); go_simp; (try with_reducible rfl))
  simp only [Act.put, List.setIfInBounds_toArray, List.set_cons_succ, List.set_cons_zero]
  refine wpAnyH_done (by kernel_rfl) ?_ _
  refine NoPanic.normal ?_
  skip
  have kp := hp.cell
  have tp := hp.lt
  have kq := hq.cell
  have tq := hq.lt
  have kf := hf.cell
  have tf := hf.lt
  go_wp2_with fail
  clear kp tp kq tq kf tf
  refine (capAdd_yes c0 hp.num hq.num (by omega) (by omega) e2.out).mono ?_
  rintro e v13 ⟨Ag, ng, cg, rfl, hng, hnn, hb13⟩
  replace hp := hp.below hb13
  replace hq := hq.below hb13
  replace hf := hf.below hb13
  replace rx := rx.below hb13
  replace ry := ry.below hb13
  replace rs := rs.below hb13
  replace rm := rm.below hb13
  replace hW := bstep0 hW hb13
  clear hb13
  have hng1 : ng ≤ 1000 := by omega
  clear hnn
  have kp := hp.cell
  have tp := hp.lt
  have kq := hq.cell
  have tq := hq.lt
  have kf := hf.cell
  have tf := hf.lt
  go_wp2_with fail
  clear kp tp kq tq kf tf
  have hnb := (Below.refl v13.heap.size v13).alloc (Nat.le_refl _) (.cells #[.slice Ag ng cg] 28)
  have hg := Bk.new hng
  replace hp := hp.below hnb
  replace hq := hq.below hnb
  replace hf := hf.below hnb
  replace rx := rx.below hnb
  replace ry := ry.below hnb
  replace rs := rs.below hnb
  replace rm := rm.below hnb
  replace hW := bstep0 hW hnb
  clear hnb
  clear hng
  generalize v13.alloc (.cells #[.slice Ag ng cg] 28) = Vg at *
  generalize v13.heap.size = gg at *
  refine (capMul_yes c0 hp.num hq.num (by omega) (by omega) e3.out).mono ?_
  rintro e v14 ⟨Ah, nh, ch, rfl, hnh, hnn, hb14⟩
  replace hp := hp.below hb14
  replace hq := hq.below hb14
  replace hf := hf.below hb14
  replace hg := hg.below hb14
  replace rx := rx.below hb14
  replace ry := ry.below hb14
  replace rs := rs.below hb14
  replace rm := rm.below hb14
  replace hW := bstep0 hW hb14
  clear hb14
  have hnh1 : nh ≤ 1000 := by omega
  clear hnn
  have kp := hp.cell
  have tp := hp.lt
  have kq := hq.cell
  have tq := hq.lt
  have kf := hf.cell
  have tf := hf.lt
  have kg := hg.cell
  have tg := hg.lt
  go_wp2_with fail
  clear kp tp kq tq kf tf kg tg
  have hnb := (Below.refl v14.heap.size v14).alloc (Nat.le_refl _) (.cells #[.slice Ah nh ch] 28)
  have hh := Bk.new hnh
  replace hp := hp.below hnb
  replace hq := hq.below hnb
  replace hf := hf.below hnb
  replace hg := hg.below hnb
  replace rx := rx.below hnb
  replace ry := ry.below hnb
  replace rs := rs.below hnb
  replace rm := rm.below hnb
  replace hW := bstep0 hW hnb
  clear hnb
  clear hnh
  generalize v14.alloc (.cells #[.slice Ah nh ch] 28) = Vh at *
  generalize v14.heap.size = gh at *
  refine (refFits_yes c0 rs (by omega) e2.out).mono ?_
  rintro e v15 ⟨rfl, hb15⟩
  replace hp := hp.below hb15
  replace hq := hq.below hb15
  replace hf := hf.below hb15
  replace hg := hg.below hb15
  replace hh := hh.below hb15
  replace rx := rx.below hb15
  replace ry := ry.below hb15
  replace rs := rs.below hb15
  replace rm := rm.below hb15
  replace hW := bstep0 hW hb15
  clear hb15
  have kp := hp.cell
  have tp := hp.lt
  have kq := hq.cell
  have tq := hq.lt
  have kf := hf.cell
  have tf := hf.lt
  have kg := hg.cell
  have tg := hg.lt
  have kh := hh.cell
  have th := hh.lt
  go_wp2_with fail
  clear kp tp kq tq kf tf kg tg kh th
  refine (refFits_yes c0 rm (by omega) e3.out).mono ?_
  rintro e v16 ⟨rfl, hb16⟩
  replace hp := hp.below hb16
  replace hq := hq.below hb16
  replace hf := hf.below hb16
  replace hg := hg.below hb16
  replace hh := hh.below hb16
  replace rx := rx.below hb16
  replace ry := ry.below hb16
  replace rs := rs.below hb16
  replace rm := rm.below hb16
  replace hW := bstep0 hW hb16
  clear hb16
  have kp := hp.cell
  have tp := hp.lt
  have kq := hq.cell
  have tq := hq.lt
  have kf := hf.cell
  have tf := hf.lt
  have kg := hg.cell
  have tg := hg.lt
  have kh := hh.cell
  have th := hh.lt
  go_wp2_with fail
  clear kp tp kq tq kf tf kg tg kh th
  refine (isYes hg.num rs (by omega)).mono ?_
  rintro e v17 ⟨rfl, hb17⟩
  replace hp := hp.below hb17
  replace hq := hq.below hb17
  replace hf := hf.below hb17
  replace hg := hg.below hb17
  replace hh := hh.below hb17
  replace rx := rx.below hb17
  replace ry := ry.below hb17
  replace rs := rs.below hb17
  replace rm := rm.below hb17
  replace hW := bstep0 hW hb17
  clear hb17
  have kp := hp.cell
  have tp := hp.lt
  have kq := hq.cell
  have tq := hq.lt
  have kf := hf.cell
  have tf := hf.lt
  have kg := hg.cell
  have tg := hg.lt
  have kh := hh.cell
  have th := hh.lt
  go_wp2_with fail
  clear kp tp kq tq kf tf kg tg kh th
  refine (isYes hh.num rm (by omega)).mono ?_
  rintro e v18 ⟨rfl, hb18⟩
  replace hp := hp.below hb18
  replace hq := hq.below hb18
  replace hf := hf.below hb18
  replace hg := hg.below hb18
  replace hh := hh.below hb18
  replace rx := rx.below hb18
  replace ry := ry.below hb18
  replace rs := rs.below hb18
  replace rm := rm.below hb18
  replace hW := bstep0 hW hb18
  clear hb18
  have kp := hp.cell
  have tp := hp.lt
  have kq := hq.cell
  have tq := hq.lt
  have kf := hf.cell
  have tf := hf.lt
  have kg := hg.cell
  have tg := hg.lt
  have kh := hh.cell
  have th := hh.lt
  go_wp2_with fail
  clear kp tp kq tq kf tf kg tg kh th
  refine (natAdd hp.num hq.num (by omega) (by omega)).mono ?_
  rintro e v19 ⟨Ai, ni, ci, rfl, hni, hnn, hb19⟩
  replace hp := hp.below hb19
  replace hq := hq.below hb19
  replace hf := hf.below hb19
  replace hg := hg.below hb19
  replace hh := hh.below hb19
  replace rx := rx.below hb19
  replace ry := ry.below hb19
  replace rs := rs.below hb19
  replace rm := rm.below hb19
  replace hW := bstep0 hW hb19
  clear hb19
  have kp := hp.cell
  have tp := hp.lt
  have kq := hq.cell
  have tq := hq.lt
  have kf := hf.cell
  have tf := hf.lt
  have kg := hg.cell
  have tg := hg.lt
  have kh := hh.cell
  have th := hh.lt
  go_wp2_with fail
  clear kp tp kq tq kf tf kg tg kh th
  refine (isYes hni rs (by omega)).mono ?_
  rintro e v20 ⟨rfl, hb20⟩
  replace hp := hp.below hb20
  replace hq := hq.below hb20
  replace hf := hf.below hb20
  replace hg := hg.below hb20
  replace hh := hh.below hb20
  replace rx := rx.below hb20
  replace ry := ry.below hb20
  replace rs := rs.below hb20
  replace rm := rm.below hb20
  replace hW := bstep0 hW hb20
  clear hb20
  clear hni hnn
  have kp := hp.cell
  have tp := hp.lt
  have kq := hq.cell
  have tq := hq.lt
  have kf := hf.cell
  have tf := hf.lt
  have kg := hg.cell
  have tg := hg.lt
  have kh := hh.cell
  have th := hh.lt
  go_wp2_with fail
  clear kp tp kq tq kf tf kg tg kh th
  refine (natMul hp.num hq.num (by omega) (by omega)).mono ?_
  rintro e v21 ⟨Ai, ni, ci, rfl, hni, hnn, hb21⟩
  replace hp := hp.below hb21
  replace hq := hq.below hb21
  replace hf := hf.below hb21
  replace hg := hg.below hb21
  replace hh := hh.below hb21
  replace rx := rx.below hb21
  replace ry := ry.below hb21
  replace rs := rs.below hb21
  replace rm := rm.below hb21
  replace hW := bstep0 hW hb21
  clear hb21
  have kp := hp.cell
  have tp := hp.lt
  have kq := hq.cell
  have tq := hq.lt
  have kf := hf.cell
  have tf := hf.lt
  have kg := hg.cell
  have tg := hg.lt
  have kh := hh.cell
  have th := hh.lt
  go_wp2_with fail
  clear kp tp kq tq kf tf kg tg kh th
  refine (isYes hni rm (by omega)).mono ?_
  rintro e v22 ⟨rfl, hb22⟩
  replace hp := hp.below hb22
  replace hq := hq.below hb22
  replace hf := hf.below hb22
  replace hg := hg.below hb22
  replace hh := hh.below hb22
  replace rx := rx.below hb22
  replace ry := ry.below hb22
  replace rs := rs.below hb22
  replace rm := rm.below hb22
  replace hW := bstep0 hW hb22
  clear hb22
  clear hni hnn
  have kp := hp.cell
  have tp := hp.lt
  have kq := hq.cell
  have tq := hq.lt
  have kf := hf.cell
  have tf := hf.lt
  have kg := hg.cell
  have tg := hg.lt
  have kh := hh.cell
  have th := hh.lt
  go_wp2_with fail
  clear kp tp kq tq kf tf kg tg kh th
  refine (natSum _ 3 3 (mid X Y) _ (nrow_mid hp hq (by omega) (by omega) rfl) (by omega) (small_mid (by omega) (by omega) rfl)).mono ?_
  rintro e v23 ⟨Ai, ni, ci, rfl, hni, hnn, hb23⟩
  have hb23 := ((Below.refl _ _).alloc (Nat.le_refl _) _).trans (hb23.mono (Nat.le_of_lt (by simp)))
  replace hp := hp.below hb23
  replace hq := hq.below hb23
  replace hf := hf.below hb23
  replace hg := hg.below hb23
  replace hh := hh.below hb23
  replace rx := rx.below hb23
  replace ry := ry.below hb23
  replace rs := rs.below hb23
  replace rm := rm.below hb23
  replace hW := bstep0 hW hb23
  clear hb23
  rw [e4.out] at hni
  have kp := hp.cell
  have tp := hp.lt
  have kq := hq.cell
  have tq := hq.lt
  have kf := hf.cell
  have tf := hf.lt
  have kg := hg.cell
  have tg := hg.lt
  have kh := hh.cell
  have th := hh.lt
  go_wp2_with fail
  clear kp tp kq tq kf tf kg tg kh th
  refine (refAdd rs rx (by omega) (by omega)).mono ?_
  rintro e v24 ⟨Aj, nj, cj, rfl, rj, hnj, hb24⟩
  replace hp := hp.below hb24
  replace hq := hq.below hb24
  replace hf := hf.below hb24
  replace hg := hg.below hb24
  replace hh := hh.below hb24
  replace rx := rx.below hb24
  replace ry := ry.below hb24
  replace rs := rs.below hb24
  replace rm := rm.below hb24
  replace hni := hni.below hb24
  replace hW := bstep0 hW hb24
  clear hb24
  have kp := hp.cell
  have tp := hp.lt
  have kq := hq.cell
  have tq := hq.lt
  have kf := hf.cell
  have tf := hf.lt
  have kg := hg.cell
  have tg := hg.lt
  have kh := hh.cell
  have th := hh.lt
  go_wp2_with fail
  clear kp tp kq tq kf tf kg tg kh th
  refine (isYes hni rj (by omega)).mono ?_
  rintro e v25 ⟨rfl, hb25⟩
  replace hp := hp.below hb25
  replace hq := hq.below hb25
  replace hf := hf.below hb25
  replace hg := hg.below hb25
  replace hh := hh.below hb25
  replace rx := rx.below hb25
  replace ry := ry.below hb25
  replace rs := rs.below hb25
  replace rm := rm.below hb25
  replace hW := bstep0 hW hb25
  clear hb25
  clear hni hnn rj hnj
  have kp := hp.cell
  have tp := hp.lt
  have kq := hq.cell
  have tq := hq.lt
  have kf := hf.cell
  have tf := hf.lt
  have kg := hg.cell
  have tg := hg.lt
  have kh := hh.cell
  have th := hh.lt
  go_wp2_with fail
  clear kp tp kq tq kf tf kg tg kh th
  refine (natSum none 0 0 (mid 0 0) _ (fun i hi => absurd hi (by omega)) (by omega) (fun i hi => absurd hi (by omega))).mono ?_
  rintro e v26 ⟨Ai, ni, ci, rfl, hni, hnn, hb26⟩
  replace hp := hp.below hb26
  replace hq := hq.below hb26
  replace hf := hf.below hb26
  replace hg := hg.below hb26
  replace hh := hh.below hb26
  replace rx := rx.below hb26
  replace ry := ry.below hb26
  replace rs := rs.below hb26
  replace rm := rm.below hb26
  replace hW := bstep0 hW hb26
  clear hb26
  have kp := hp.cell
  have tp := hp.lt
  have kq := hq.cell
  have tq := hq.lt
  have kf := hf.cell
  have tf := hf.lt
  have kg := hg.cell
  have tg := hg.lt
  have kh := hh.cell
  have th := hh.lt
  go_wp2_with fail
  clear kp tp kq tq kf tf kg tg kh th
  refine (isYes hni (RNum.zero _ 0) (by omega)).mono ?_
  rintro e v27 ⟨rfl, hb27⟩
  replace hp := hp.below hb27
  replace hq := hq.below hb27
  replace hf := hf.below hb27
  replace hg := hg.below hb27
  replace hh := hh.below hb27
  replace rx := rx.below hb27
  replace ry := ry.below hb27
  replace rs := rs.below hb27
  replace rm := rm.below hb27
  replace hW := bstep0 hW hb27
  clear hb27
  clear hni hnn
  have kp := hp.cell
  have tp := hp.lt
  have kq := hq.cell
  have tq := hq.lt
  have kf := hf.cell
  have tf := hf.lt
  have kg := hg.cell
  have tg := hg.lt
  have kh := hh.cell
  have th := hh.lt
  go_wp2_with fail
  clear kp tp kq tq kf tf kg tg kh th
  rcases Nat.lt_or_ge (capN c0) n1 with hk | hk
  · have hfx := Lib.hid (fun h => Nat.not_le.2 hk ((hp.num.fit c0).2 h))
    refine (capFits_no c0 A1 n1 c1 hk _).mono ?_
    rintro e v28 ⟨rfl, hb28⟩
    replace hp := hp.below hb28
    replace hq := hq.below hb28
    replace hf := hf.below hb28
    replace hg := hg.below hb28
    replace hh := hh.below hb28
    replace rx := rx.below hb28
    replace ry := ry.below hb28
    replace rs := rs.below hb28
    replace rm := rm.below hb28
    replace hW := bstep0 hW hb28
    clear hb28
    clear hk
    have kp := hp.cell
    have tp := hp.lt
    have kq := hq.cell
    have tq := hq.lt
    have kf := hf.cell
    have tf := hf.lt
    have kg := hg.cell
    have tg := hg.lt
    have kh := hh.cell
    have th := hh.lt
    go_wp2_with fail
    clear kp tp kq tq kf tf kg tg kh th
    refine (refFits_no c0 rx (by omega) hfx.out).mono ?_
    rintro e v29 ⟨rfl, hb29⟩
    replace hp := hp.below hb29
    replace hq := hq.below hb29
    replace hf := hf.below hb29
    replace hg := hg.below hb29
    replace hh := hh.below hb29
    replace rx := rx.below hb29
    replace ry := ry.below hb29
    replace rs := rs.below hb29
    replace rm := rm.below hb29
    replace hW := bstep0 hW hb29
    clear hb29
    have kp := hp.cell
    have tp := hp.lt
    have kq := hq.cell
    have tq := hq.lt
    have kf := hf.cell
    have tf := hf.lt
    have kg := hg.cell
    have tg := hg.lt
    have kh := hh.cell
    have th := hh.lt
    go_wp2_with fail
    clear kp tp kq tq kf tf kg tg kh th
    refine (isYes hp.num rx (by omega)).mono ?_
    rintro e v30 ⟨rfl, hb30⟩
    replace hp := hp.below hb30
    replace hq := hq.below hb30
    replace hf := hf.below hb30
    replace hg := hg.below hb30
    replace hh := hh.below hb30
    replace rx := rx.below hb30
    replace ry := ry.below hb30
    replace rs := rs.below hb30
    replace rm := rm.below hb30
    replace hW := bstep0 hW hb30
    clear hb30
    have kp := hp.cell
    have tp := hp.lt
    have kq := hq.cell
    have tq := hq.lt
    have kf := hf.cell
    have tf := hf.lt
    have kg := hg.cell
    have tg := hg.lt
    have kh := hh.cell
    have th := hh.lt
    go_wp2_with fail
    clear kp tp kq tq kf tf kg tg kh th
    refine (isYes hq.num ry (by omega)).mono ?_
    rintro e v31 ⟨rfl, hb31⟩
    replace hp := hp.below hb31
    replace hq := hq.below hb31
    replace hf := hf.below hb31
    replace hg := hg.below hb31
    replace hh := hh.below hb31
    replace rx := rx.below hb31
    replace ry := ry.below hb31
    replace rs := rs.below hb31
    replace rm := rm.below hb31
    replace hW := bstep0 hW hb31
    clear hb31
    have kp := hp.cell
    have tp := hp.lt
    have kq := hq.cell
    have tq := hq.lt
    have kf := hf.cell
    have tf := hf.lt
    have kg := hg.cell
    have tg := hg.lt
    have kh := hh.cell
    have th := hh.lt
    go_wp2_with fail
    clear kp tp kq tq kf tf kg tg kh th
    refine (works_any _).mono ?_
    rintro e v32 ⟨rfl, hb32⟩
    replace hp := hp.below hb32
    replace hq := hq.below hb32
    replace hf := hf.below hb32
    replace hg := hg.below hb32
    replace hh := hh.below hb32
    replace rx := rx.below hb32
    replace ry := ry.below hb32
    replace rs := rs.below hb32
    replace rm := rm.below hb32
    replace hW := bstep0 hW hb32
    clear hb32
    have kp := hp.cell
    have tp := hp.lt
    have kq := hq.cell
    have tq := hq.lt
    have kf := hf.cell
    have tf := hf.lt
    have kg := hg.cell
    have tg := hg.lt
    have kh := hh.cell
    have th := hh.lt
    go_wp2_with fail
    clear kp tp kq tq kf tf kg tg kh th
    go_ret
    exact ⟨rfl, hW⟩
  · have hfx := Lib.hid ((hp.num.fit c0).1 hk)
    refine (capFits_yes c0 A1 n1 c1 hk _).mono ?_
    rintro e v28 ⟨rfl, hb28⟩
    replace hp := hp.below hb28
    replace hq := hq.below hb28
    replace hf := hf.below hb28
    replace hg := hg.below hb28
    replace hh := hh.below hb28
    replace rx := rx.below hb28
    replace ry := ry.below hb28
    replace rs := rs.below hb28
    replace rm := rm.below hb28
    replace hW := bstep0 hW hb28
    clear hb28
    clear hk
    have kp := hp.cell
    have tp := hp.lt
    have kq := hq.cell
    have tq := hq.lt
    have kf := hf.cell
    have tf := hf.lt
    have kg := hg.cell
    have tg := hg.lt
    have kh := hh.cell
    have th := hh.lt
    go_wp2_with fail
    clear kp tp kq tq kf tf kg tg kh th
    refine (refFits_yes c0 rx (by omega) hfx.out).mono ?_
    rintro e v29 ⟨rfl, hb29⟩
    replace hp := hp.below hb29
    replace hq := hq.below hb29
    replace hf := hf.below hb29
    replace hg := hg.below hb29
    replace hh := hh.below hb29
    replace rx := rx.below hb29
    replace ry := ry.below hb29
    replace rs := rs.below hb29
    replace rm := rm.below hb29
    replace hW := bstep0 hW hb29
    clear hb29
    have kp := hp.cell
    have tp := hp.lt
    have kq := hq.cell
    have tq := hq.lt
    have kf := hf.cell
    have tf := hf.lt
    have kg := hg.cell
    have tg := hg.lt
    have kh := hh.cell
    have th := hh.lt
    go_wp2_with fail
    clear kp tp kq tq kf tf kg tg kh th
    refine (isYes hp.num rx (by omega)).mono ?_
    rintro e v30 ⟨rfl, hb30⟩
    replace hp := hp.below hb30
    replace hq := hq.below hb30
    replace hf := hf.below hb30
    replace hg := hg.below hb30
    replace hh := hh.below hb30
    replace rx := rx.below hb30
    replace ry := ry.below hb30
    replace rs := rs.below hb30
    replace rm := rm.below hb30
    replace hW := bstep0 hW hb30
    clear hb30
    have kp := hp.cell
    have tp := hp.lt
    have kq := hq.cell
    have tq := hq.lt
    have kf := hf.cell
    have tf := hf.lt
    have kg := hg.cell
    have tg := hg.lt
    have kh := hh.cell
    have th := hh.lt
    go_wp2_with fail
    clear kp tp kq tq kf tf kg tg kh th
    refine (isYes hq.num ry (by omega)).mono ?_
    rintro e v31 ⟨rfl, hb31⟩
    replace hp := hp.below hb31
    replace hq := hq.below hb31
    replace hf := hf.below hb31
    replace hg := hg.below hb31
    replace hh := hh.below hb31
    replace rx := rx.below hb31
    replace ry := ry.below hb31
    replace rs := rs.below hb31
    replace rm := rm.below hb31
    replace hW := bstep0 hW hb31
    clear hb31
    have kp := hp.cell
    have tp := hp.lt
    have kq := hq.cell
    have tq := hq.lt
    have kf := hf.cell
    have tf := hf.lt
    have kg := hg.cell
    have tg := hg.lt
    have kh := hh.cell
    have th := hh.lt
    go_wp2_with fail
    clear kp tp kq tq kf tf kg tg kh th
    refine (works_any _).mono ?_
    rintro e v32 ⟨rfl, hb32⟩
    replace hp := hp.below hb32
    replace hq := hq.below hb32
    replace hf := hf.below hb32
    replace hg := hg.below hb32
    replace hh := hh.below hb32
    replace rx := rx.below hb32
    replace ry := ry.below hb32
    replace rs := rs.below hb32
    replace rm := rm.below hb32
    replace hW := bstep0 hW hb32
    clear hb32
    have kp := hp.cell
    have tp := hp.lt
    have kq := hq.cell
    have tq := hq.lt
    have kf := hf.cell
    have tf := hf.lt
    have kg := hg.cell
    have tg := hg.lt
    have kh := hh.cell
    have th := hh.lt
    go_wp2_with fail
    clear kp tp kq tq kf tf kg tg kh th
    go_ret
    exact ⟨rfl, hW⟩

set_option maxRecDepth 100000 in
set_option maxHeartbeats 4000000 in
theorem natReckons_gsn (A B : Option Addr) (n m c c' : Nat) (c0 : Int) (l1 l2 : List Nat) (w : World) (ha : Row w w.heap.size .u64 A n l1) (hb : Row w w.heap.size .u64 B m l2) (ba : Dig.Below LB l1) (bb : Dig.Below LB l2)
    (hn : n ≤ 40) (hm : m ≤ 40) (hnc : n ≤ c) (hmc : m ≤ c') (hcm : c ≤ maxLen) (hcm' : c' ≤ maxLen) (X Y : Nat) (hX : Hid (Dig.val LB l1 = X)) (hY : Hid (Dig.val LB l2 = Y)) (e0 : Hid (Y ≤ X)) (e2 : Hid (Fit c0 (X + Y))) (e3 : Hid (¬ Fit c0 (X * Y))) :
    Calls Try.prog 4 #[.slice A n c, .slice B m c', .int .i64 c0] w fun e w' => e = .returned (.bool true) ∧ Below w.heap.size w w' := by
  have e4 := Lib.hid (sum_mid X Y)
  obtain ⟨z, hz1, hz2⟩ : ∃ z : Int, cmpI X Y = z ∧ 0 ≤ z := ⟨_, rfl, by have := e0.out; unfold cmpI; rw [if_neg (by omega)]; split <;> omega⟩
  have e1 := Lib.hid hz1
  have hz3 : decide (z < 0) = false := by simp; omega
  clear hz1 hz2
  go_enter Try.func4, Try.ntmps4
  go_wp2_with fail
  refine (refOf A n c l1 _ ha ba (by omega)).mono ?_
  rintro e v1 ⟨Ax, nx, cx, rfl, rx, hnx, hW⟩
  go_wp2_with fail
  refine (refOf B m c' l2 _ ((hb.below hW).more hW.size) bb (by omega)).mono ?_
  rintro e v2 ⟨Ay, ny, cy, rfl, ry, hny, hb2⟩
  rw [hX.out] at rx
  rw [hY.out] at ry
  replace rx := rx.below hb2
  replace hW := bstep0 hW hb2
  have ra := (ha.below hW).more hW.size
  have rb := (hb.below hW).more hW.size
  clear hb2 ha hb
  go_wp2_with fail
  refine (natLimbs A n c l1 _ ra ba hnc hcm (by omega)).mono ?_
  rintro e v3 ⟨A1, n1, c1, rfl, hp, hn1, hb3⟩
  rw [hX.out] at hp
  replace rx := rx.below hb3
  replace ry := ry.below hb3
  replace hW := bstep0 hW hb3
  replace rb := (rb.below hb3).more hb3.size
  clear ra hb3
  go_wp2_with fail
  refine (natLimbs B m c' l2 _ rb bb hmc hcm' (by omega)).mono ?_
  rintro e v4 ⟨A2, n2, c2, rfl, hq, hn2, hb4⟩
  rw [hY.out] at hq
  replace rx := rx.below hb4
  replace ry := ry.below hb4
  replace hp := hp.below hb4
  replace hW := bstep0 hW hb4
  clear rb hb4
  have hn1' : n1 ≤ 1000 := by omega
  have hn2' : n2 ≤ 1000 := by omega
  have hnx' : nx ≤ 320 := by omega
  have hny' : ny ≤ 320 := by omega
  have hn1 : n1 ≤ 40 := by omega
  have hn2 : n2 ≤ 40 := by omega
  clear hnx hny
  go_wp2_with fail
  have hb5 : Below v4.heap.size v4 ((v4.alloc (.cells #[.slice A1 n1 c1] 28)).alloc (.cells #[.slice A2 n2 c2] 28)) := by go_grown
  have hp : Bk ((v4.alloc (.cells #[.slice A1 n1 c1] 28)).alloc (.cells #[.slice A2 n2 c2] 28)) v4.heap.size A1 n1 c1 _ X := ⟨by simp [go_sem], by simp [go_sem], hp.below hb5⟩
  have hq : Bk ((v4.alloc (.cells #[.slice A1 n1 c1] 28)).alloc (.cells #[.slice A2 n2 c2] 28)) (v4.heap.size + 1) A2 n2 c2 _ Y := ⟨by simp [go_sem], by simp [go_sem], hq.below hb5⟩
  replace rx := rx.below hb5
  replace ry := ry.below hb5
  replace hW := bstep0 hW hb5
  clear hb5
  generalize (v4.alloc (.cells #[.slice A1 n1 c1] 28)).alloc (.cells #[.slice A2 n2 c2] 28) = V at *
  generalize v4.heap.size + 1 = gq at *
  generalize v4.heap.size = gp at *
  refine (refAdd rx ry (by omega) (by omega)).mono ?_
  rintro e v5 ⟨As, ns, cs, rfl, rs, hns, hb5⟩
  replace hp := hp.below hb5
  replace hq := hq.below hb5
  replace rx := rx.below hb5
  replace ry := ry.below hb5
  replace hW := bstep0 hW hb5
  clear hb5
  go_wp2_with fail
  refine (refMul rx ry (by omega) (by omega)).mono ?_
  rintro e v6 ⟨Am, nm, cm, rfl, rm, hnm, hb6⟩
  replace hp := hp.below hb6
  replace hq := hq.below hb6
  replace rx := rx.below hb6
  replace ry := ry.below hb6
  replace rs := rs.below hb6
  replace hW := bstep0 hW hb6
  clear hb6
  have hns' : ns ≤ 1000 := by omega
  have hnm' : nm ≤ 1000 := by omega
  clear hns hnm
  have kp := hp.cell
  have kq := hq.cell
  go_wp2_with fail
  clear kp kq
  refine (natSub hp.num hq.num e0.out (by omega) (by omega)).mono ?_
  rintro e v11 ⟨Af, nf, cf, rfl, hnf, hnn, hb11⟩
  replace hp := hp.below hb11
  replace hq := hq.below hb11
  replace rx := rx.below hb11
  replace ry := ry.below hb11
  replace rs := rs.below hb11
  replace rm := rm.below hb11
  replace hW := bstep0 hW hb11
  clear hb11
  have hnf1 : nf ≤ 1000 := by omega
  clear hnn
  have kp := hp.cell
  have tp := hp.lt
  have kq := hq.cell
  have tq := hq.lt
  go_wp2_with fail
  clear kp tp kq tq
  have hnb := (Below.refl v11.heap.size v11).alloc (Nat.le_refl _) (.cells #[.slice Af nf cf] 28)
  have hf := Bk.new hnf
  replace hp := hp.below hnb
  replace hq := hq.below hnb
  replace rx := rx.below hnb
  replace ry := ry.below hnb
  replace rs := rs.below hnb
  replace rm := rm.below hnb
  replace hW := bstep0 hW hnb
  clear hnb
  clear hnf
  generalize v11.alloc (.cells #[.slice Af nf cf] 28) = Vf at *
  generalize v11.heap.size = gf at *
  refine (natCmpZ rx ry e1.out).mono ?_
  rintro e v12 ⟨rfl, hb12⟩
  replace hp := hp.below hb12
  replace hq := hq.below hb12
  replace hf := hf.below hb12
  replace rx := rx.below hb12
  replace ry := ry.below hb12
  replace rs := rs.below hb12
  replace rm := rm.below hb12
  replace hW := bstep0 hW hb12
  clear hb12
  have kp := hp.cell
  have tp := hp.lt
  have kq := hq.cell
  have tq := hq.lt
  have kf := hf.cell
  have tf := hf.lt
  go_wp2_with fail
  clear kp tp kq tq kf tf
  replace hp := hp.below ((Below.refl _ _).drew)
  replace hq := hq.below ((Below.refl _ _).drew)
  replace hf := hf.below ((Below.refl _ _).drew)
  replace rx := rx.below ((Below.refl _ _).drew)
  replace ry := ry.below ((Below.refl _ _).drew)
  replace rs := rs.below ((Below.refl _ _).drew)
  replace rm := rm.below ((Below.refl _ _).drew)
  replace hW := bstep0 hW ((Below.refl _ _).drew)
  refine wp_region_noPanic ?_
  refine wp_region_held_drew (S := fun w' => w'.cell? ⟨gf, 0, none⟩ = some (.slice Af nf cf)) (by kernel_rfl) (hf.cell) (fun hHeld => ?_)
  refine wpAnyH_take (i := 0) (oi := { dst := some 53, op := Go.Op.move (Go.Operand.tmp 15), type := 4, pos := "law.go:76", after := #[], guard := none }) (v := ?_) rfl (by kernel_rfl) (by kernel_rfl) (by kernel_rfl) (fun _ _ _ h => h) (Or.inl ⟨by rfl, ?_⟩) hHeld ?_
  rotate_left 1
  · (intro w hSw; (try dsimp only at hSw); go_simp; (try with_reducible rfl))
  simp only [Act.put, List.setIfInBounds_toArray, List.set_cons_succ, List.set_cons_zero]
  refine wpAnyH_take (i := 1) (oi := { dst := some 54, op := Go.Op.move (Go.Operand.tmp 14), type := 40, pos := "law.go:76", after := #[], guard := none }) (v := ?_) rfl (by kernel_rfl) (by kernel_rfl) (by kernel_rfl) (fun _ _ _ h => h) (Or.inl ⟨by rfl, ?_⟩) hHeld ?_
  rotate_left 1
  · (intro w hSw; (try dsimp only at hSw); go_simp; (try with_reducible rfl))
  simp only [Act.put, List.setIfInBounds_toArray, List.set_cons_succ, List.set_cons_zero]
  refine wpAnyH_take (i := 2) (oi := { dst := some 55, op := Go.Op.binOp Go.BinOp.eql 40 (Go.Operand.tmp 54) (Go.Operand.const (Go.Value.int Go.IntKind.i64 11)) 40, type := 4, pos := "law.go:76", after := #[{ on := 1, ground := Go.Ground.data }], guard := none }) (v := ?_) rfl (by kernel_rfl) (by kernel_rfl) (by kernel_rfl) (fun _ _ _ h => h) (Or.inl ⟨by rfl, ?_⟩) hHeld ?_
  rotate_left 1
  · (intro w hSw; (try dsimp only at hSw); go_simp; (try with_reducible rfl))
  simp only [Act.put, List.setIfInBounds_toArray, List.set_cons_succ, List.set_cons_zero]
  refine wpAnyH_take (i := 3) (oi := { dst := some 56, op := Go.Op.binOp Go.BinOp.neq 4 (Go.Operand.tmp 53) (Go.Operand.tmp 55) 4, type := 4, pos := "law.go:76", after := #[{ on := 0, ground := Go.Ground.data }, { on := 2, ground := Go.Ground.data }], guard := none }) (v := ?_) rfl (by kernel_rfl) (by kernel_rfl) (by kernel_rfl) (fun _ _ _ h => h) (Or.inl ⟨by rfl, ?_⟩) hHeld ?_
  rotate_left 1
  · (intro w hSw; (try dsimp only at hSw); go_simp; (try with_reducible rfl))
  simp only [Act.put, List.setIfInBounds_toArray, List.set_cons_succ, List.set_cons_zero]
  refine wpAnyH_take (i := 4) (oi := { dst := some 57, op := Go.Op.move (Go.Operand.tmp 56), type := 4, pos := "law.go:76", after := #[{ on := 3, ground := Go.Ground.data }], guard := none }) (v := ?_) rfl (by kernel_rfl) (by kernel_rfl) (by kernel_rfl) (fun _ _ _ h => h) (Or.inl ⟨by rfl, ?_⟩) hHeld ?_
  rotate_left 1
  · (intro w hSw; (try dsimp only at hSw); go_simp; (try with_reducible rfl))
  simp only [Act.put, List.setIfInBounds_toArray, List.set_cons_succ, List.set_cons_zero]
  refine wpAnyH_take (i := 5) (oi := { dst := some 58, op := Go.Op.move (Go.Operand.tmp 15), type := 4, pos := "law.go:76", after := #[{ on := 4, ground := Go.Ground.guard }], guard := some (4, false) }) (v := ?_) rfl (by kernel_rfl) (by kernel_rfl) (by kernel_rfl) (fun _ _ _ h => h) (Or.inl ⟨by rfl, ?_⟩) hHeld ?_
  rotate_left 1
  · (intro w hSw; (try dsimp only at hSw); go_simp; (try with_reducible rfl))
  simp only [Act.put, List.setIfInBounds_toArray, List.set_cons_succ, List.set_cons_zero]
  refine wpAnyH_take (i := 6) (oi := { dst := some 59, op := Go.Op.unOp Go.UnOp.not 4 (Go.Operand.tmp 58), type := 4, pos := "law.go:76", after := #[{ on := 5, ground := Go.Ground.data }, { on := 4, ground := Go.Ground.guard }], guard := some (4, false) }) (v := ?_) rfl (by kernel_rfl) (by kernel_rfl) (by kernel_rfl) (fun _ _ _ h => h) (Or.inl ⟨by rfl, ?_⟩) hHeld ?_
  rotate_left 1
  · (intro w hSw; (try dsimp only at hSw); go_simp; (try with_reducible rfl))
  simp only [Act.put, List.setIfInBounds_toArray, List.set_cons_succ, List.set_cons_zero]
  refine wpAnyH_take (i := 7) (oi := { dst := some 60, op := Go.Op.move (Go.Operand.tmp 59), type := 4, pos := "law.go:76", after := #[{ on := 6, ground := Go.Ground.data }, { on := 4, ground := Go.Ground.chain }, { on := 4, ground := Go.Ground.guard }], guard := some (4, false) }) (v := ?_) rfl (by kernel_rfl) (by kernel_rfl) (by kernel_rfl) (fun _ _ _ h => h) (Or.inl ⟨by rfl, ?_⟩) hHeld ?_
  rotate_left 1
  · (intro w hSw; (try dsimp only at hSw); go_simp; (try with_reducible rfl))
  simp only [Act.put, List.setIfInBounds_toArray, List.set_cons_succ, List.set_cons_zero]
  refine wpAnyH_take (i := 8) (oi := { dst := some 61, op := Go.Op.move (Go.Operand.tmp 14), type := 40, pos := "law.go:76", after := #[{ on := 7, ground := Go.Ground.guard }], guard := some (7, true) }) (v := ?_) rfl (by kernel_rfl) (by kernel_rfl) (by kernel_rfl) (fun _ _ _ h => h) (Or.inl ⟨by rfl, ?_⟩) hHeld ?_
  rotate_left 1
  · (intro w hSw; (try dsimp only at hSw); go_simp; (try with_reducible rfl))
  simp only [Act.put, List.setIfInBounds_toArray, List.set_cons_succ, List.set_cons_zero]
  refine wpAnyH_take (i := 9) (oi := { dst := some 62, op := Go.Op.binOp Go.BinOp.neq 40 (Go.Operand.tmp 61) (Go.Operand.const (Go.Value.int Go.IntKind.i64 0)) 40, type := 4, pos := "law.go:76", after := #[{ on := 8, ground := Go.Ground.data }, { on := 7, ground := Go.Ground.guard }], guard := some (7, true) }) (v := ?_) rfl (by kernel_rfl) (by kernel_rfl) (by kernel_rfl) (fun _ _ _ h => h) (Or.inl ⟨by rfl, ?_⟩) hHeld ?_
  rotate_left 1
  · (intro w hSw; (try dsimp only at hSw); go_simp; (try with_reducible rfl))
  simp only [Act.put, List.setIfInBounds_toArray, List.set_cons_succ, List.set_cons_zero]
  refine wpAnyH_take (i := 10) (oi := { dst := some 63, op := Go.Op.move (Go.Operand.tmp 62), type := 4, pos := "law.go:76", after := #[{ on := 9, ground := Go.Ground.data }, { on := 7, ground := Go.Ground.chain }, { on := 7, ground := Go.Ground.guard }], guard := some (7, true) }) (v := ?_) rfl (by kernel_rfl) (by kernel_rfl) (by kernel_rfl) (fun _ _ _ h => h) (Or.inl ⟨by rfl, ?_⟩) hHeld ?_
  rotate_left 1
  · (intro w hSw; (try dsimp only at hSw); go_simp; (try with_reducible rfl))
  simp only [Act.put, List.setIfInBounds_toArray, List.set_cons_succ, List.set_cons_zero]
  refine wpAnyH_take (i := 11) (oi := { dst := some 64, op := Go.Op.load 28 (Go.Operand.tmp 13), type := 28, pos := "law.go:76", after := #[{ on := 10, ground := Go.Ground.guard }], guard := some (10, false) }) (v := ?_) rfl (by kernel_rfl) (by kernel_rfl) (by kernel_rfl) (fun _ _ _ h => h) (Or.inl ⟨by rfl, ?_⟩) hHeld ?_
  rotate_left 1
  · (intro w hSw; (try dsimp only at hSw); go_simp; (try with_reducible rfl))
  simp only [Act.put, List.setIfInBounds_toArray, List.set_cons_succ, List.set_cons_zero]
  refine wpAnyH_take (i := 12) (oi := { dst := some 65, op := Go.Op.move (Go.Operand.tmp 7), type := 25, pos := "law.go:76", after := #[{ on := 10, ground := Go.Ground.guard }], guard := some (10, false) }) (v := ?_) rfl (by kernel_rfl) (by kernel_rfl) (by kernel_rfl) (fun _ _ _ h => h) (Or.inl ⟨by rfl, ?_⟩) hHeld ?_
  rotate_left 1
  · (intro w hSw; (try dsimp only at hSw); go_simp; (try with_reducible rfl))
  simp only [Act.put, List.setIfInBounds_toArray, List.set_cons_succ, List.set_cons_zero]
  refine wpAnyH_take (i := 13) (oi := { dst := some 66, op := Go.Op.move (Go.Operand.tmp 8), type := 25, pos := "law.go:76", after := #[{ on := 10, ground := Go.Ground.guard }], guard := some (10, false) }) (v := ?_) rfl (by kernel_rfl) (by kernel_rfl) (by kernel_rfl) (fun _ _ _ h => h) (Or.inl ⟨by rfl, ?_⟩) hHeld ?_
  rotate_left 1
  · (intro w hSw; (try dsimp only at hSw); go_simp; (try with_reducible rfl))
  simp only [Act.put, List.setIfInBounds_toArray, List.set_cons_succ, List.set_cons_zero]
  refine wpAnyH_ready (rs := [14]) (by kernel_rfl) (by simp) ?_
  refine AllReadyH.cons (o := { dst := some 67, op := Go.Op.call { callee := Go.Callee.value (Go.Operand.func 20), args := #[Go.Operand.tmp 65, Go.Operand.tmp 66], argTypes := #[25, 25] }, type := 25, pos := "law.go:76", after := #[{ on := 12, ground := Go.Ground.data }, { on := 13, ground := Go.Ground.data }, { on := 10, ground := Go.Ground.chain }, { on := 10, ground := Go.Ground.guard }], guard := some (10, false) }) rfl (fun K hK => ?_) AllReadyH.nil
  go_simp
  refine (refSub rx ry e0.out (by omega)).mono ?_
  rintro e vr1 ⟨Ad, nd, cd, rfl, rd, hnd, hbr1⟩
  replace hp := hp.below hbr1
  replace hq := hq.below hbr1
  replace hf := hf.below hbr1
  replace rx := rx.below hbr1
  replace ry := ry.below hbr1
  replace rs := rs.below hbr1
  replace rm := rm.below hbr1
  replace hW := bstep0 hW hbr1
  clear hbr1
  refine hK.out _ _ (hf.cell) (fun hHeld => ?_)
  clear hK K
  refine wpAnyH_ready (rs := [15]) (by kernel_rfl) (by simp) ?_
  refine AllReadyH.cons (o := { dst := some 68, op := Go.Op.call { callee := Go.Callee.value (Go.Operand.func 12), args := #[Go.Operand.tmp 64, Go.Operand.tmp 67], argTypes := #[28, 25] }, type := 4, pos := "law.go:76", after := #[{ on := 11, ground := Go.Ground.data }, { on := 14, ground := Go.Ground.data }, { on := 14, ground := Go.Ground.chain }, { on := 10, ground := Go.Ground.guard }], guard := some (10, false) }) rfl (fun K hK => ?_) AllReadyH.nil
  go_simp
  refine (isYes hf.num rd (by omega)).mono ?_
  rintro e vr2 ⟨rfl, hbr2⟩
  replace hp := hp.below hbr2
  replace hq := hq.below hbr2
  replace hf := hf.below hbr2
  replace rx := rx.below hbr2
  replace ry := ry.below hbr2
  replace rs := rs.below hbr2
  replace rm := rm.below hbr2
  replace hW := bstep0 hW hbr2
  clear hbr2
  refine hK.out _ _ (hf.cell) (fun hHeld => ?_)
  clear hK K
  refine wpAnyH_take (i := 16) (oi := { dst := some 69, op := Go.Op.unOp Go.UnOp.not 4 (Go.Operand.tmp 68), type := 4, pos := "law.go:76", after := #[{ on := 15, ground := Go.Ground.data }, { on := 10, ground := Go.Ground.guard }], guard := some (10, false) }) (v := ?_) rfl (by kernel_rfl) (by kernel_rfl) (by kernel_rfl) (fun _ _ _ h => h) (Or.inl ⟨by rfl, ?_⟩) hHeld ?_
  rotate_left 1
  · (intro w hSw; (try dsimp only at hSw); go_simp; (try with_reducible rfl))
  simp only [Act.put, List.setIfInBounds_toArray, List.set_cons_succ, List.set_cons_zero]
  refine wpAnyH_take (i := 17) (oi := { dst := some 70, op := Go.Op.pick (Go.Operand.tmp 63) (Go.Operand.const (Go.Value.bool true)) (Go.Operand.tmp 69), type := 4, pos := "law.go:76", after := #[{ on := 10, ground := Go.Ground.data }, { on := 16, ground := Go.Ground.data }, { on := 7, ground := Go.Ground.guard }], guard := some (7, true) }) (v := ?_) rfl (by kernel_rfl) (by kernel_rfl) (by kernel_rfl) (fun _ _ _ h => h) (Or.inl ⟨by rfl, ?_⟩) hHeld ?_
  rotate_left 1
  · (intro w hSw; (try dsimp only at hSw); go_simp; (try with_reducible rfl))
  simp only [Act.put, List.setIfInBounds_toArray, List.set_cons_succ, List.set_cons_zero]
  refine wpAnyH_take (i := 18) (oi := { dst := some 71, op := Go.Op.pick (Go.Operand.tmp 60) (Go.Operand.tmp 70) (Go.Operand.const (Go.Value.bool false)), type := 4, pos := "law.go:76", after := #[{ on := 7, ground := Go.Ground.data }, { on := 17, ground := Go.Ground.data }, { on := 4, ground := Go.Ground.guard }], guard := some (4, false) }) (v := ?_) rfl (by kernel_rfl) (by kernel_rfl) (by kernel_rfl) (fun _ _ _ h => h) (Or.inl ⟨by rfl, ?_⟩) hHeld ?_
  rotate_left 1
  · (intro w hSw; (try dsimp only at hSw); go_simp; (try with_reducible rfl))
  simp only [Act.put, List.setIfInBounds_toArray, List.set_cons_succ, List.set_cons_zero]
  refine wpAnyH_take (i := 19) (oi := { dst := some 72, op := Go.Op.pick (Go.Operand.tmp 57) (Go.Operand.const (Go.Value.bool true)) (Go.Operand.tmp 71), type := 4, pos := "law.go:76", after := #[{ on := 4, ground := Go.Ground.data }, { on := 18, ground := Go.Ground.data }], guard := none }) (v := ?_) rfl (by kernel_rfl) (by kernel_rfl) (by kernel_rfl) (fun _ _ _ h => h) (Or.inl ⟨by rfl, ?_⟩) hHeld ?_
  rotate_left 1
  · (intro w hSw; (try dsimp only at hSw); go_simp; (try with_reducible rfl))
  simp only [Act.put, List.setIfInBounds_toArray, List.set_cons_succ, List.set_cons_zero]
  refine wpAnyH_take (i := 20) (oi := { dst := some 73, op := Go.Op.move (Go.Operand.tmp 72), type := 4, pos := "law.go:76", after := #[{ on := 19, ground := Go.Ground.data }, { on := 15, ground := Go.Ground.chain }], guard := none }) (v := ?_) rfl (by kernel_rfl) (by kernel_rfl) (by kernel_rfl) (fun _ _ _ h => h) (Or.inl ⟨by rfl, ?_⟩) hHeld ?_
  rotate_left 1
  · (intro w hSw; (try dsimp only at hSw); go_simp; (try with_reducible rfl))
  simp only [Act.put, List.setIfInBounds_toArray, List.set_cons_succ, List.set_cons_zero]
  refine wpAnyH_take (i := 21) (oi := { dst := some 74, op := Go.Op.move (Go.Operand.tmp 15), type := 4, pos := "law.go:76", after := #[{ on := 20, ground := Go.Ground.guard }], guard := some (20, false) }) (v := ?_) rfl (by kernel_rfl) (by kernel_rfl) (by kernel_rfl) (fun _ _ _ h => h) (Or.inl ⟨by rfl, ?_⟩) hHeld ?_
  rotate_left 1
  · (intro w hSw; (try dsimp only at hSw); go_simp; (try with_reducible rfl))
  simp only [Act.put, List.setIfInBounds_toArray, List.set_cons_succ, List.set_cons_zero]
  refine wpAnyH_take (i := 22) (oi := { dst := some 75, op := Go.Op.move (Go.Operand.tmp 74), type := 4, pos := "law.go:76", after := #[{ on := 21, ground := Go.Ground.data }, { on := 20, ground := Go.Ground.chain }, { on := 20, ground := Go.Ground.guard }], guard := some (20, false) }) (v := ?_) rfl (by kernel_rfl) (by kernel_rfl) (by kernel_rfl) (fun _ _ _ h => h) (Or.inl ⟨by rfl, ?_⟩) hHeld ?_
  rotate_left 1
  · (intro w hSw; (try dsimp only at hSw); go_simp; (try with_reducible rfl))
  simp only [Act.put, List.setIfInBounds_toArray, List.set_cons_succ, List.set_cons_zero]
  refine wpAnyH_take (i := 23) (oi := { dst := some 76, op := Go.Op.load 28 (Go.Operand.tmp 13), type := 28, pos := "law.go:76", after := #[{ on := 22, ground := Go.Ground.guard }], guard := some (22, true) }) (v := undef) rfl (by kernel_rfl) (by kernel_rfl) (by kernel_rfl) (fun _ _ _ h => h) (Or.inr ⟨by rfl, rfl⟩) hHeld ?_
  simp only [Act.put, List.setIfInBounds_toArray, List.set_cons_succ, List.set_cons_zero]
  refine wpAnyH_take (i := 24) (oi := { dst := some 77, op := Go.Op.call { callee := Go.Callee.value (Go.Operand.func 12), args := #[Go.Operand.tmp 76, Go.Operand.const (Go.Value.slice none 0 0)], argTypes := #[28, 25] }, type := 4, pos := "law.go:76", after := #[{ on := 23, ground := Go.Ground.data }, { on := 22, ground := Go.Ground.chain }, { on := 22, ground := Go.Ground.guard }], guard := some (22, true) }) (v := undef) rfl (by kernel_rfl) (by kernel_rfl) (by kernel_rfl) (fun _ _ _ h => h) (Or.inr ⟨by rfl, rfl⟩) hHeld ?_
  simp only [Act.put, List.setIfInBounds_toArray, List.set_cons_succ, List.set_cons_zero]
  refine wpAnyH_take (i := 25) (oi := { dst := some 78, op := Go.Op.unOp Go.UnOp.not 4 (Go.Operand.tmp 77), type := 4, pos := "law.go:76", after := #[{ on := 24, ground := Go.Ground.data }, { on := 22, ground := Go.Ground.guard }], guard := some (22, true) }) (v := undef) rfl (by kernel_rfl) (by kernel_rfl) (by kernel_rfl) (fun _ _ _ h => h) (Or.inr ⟨by rfl, rfl⟩) hHeld ?_
  simp only [Act.put, List.setIfInBounds_toArray, List.set_cons_succ, List.set_cons_zero]
  refine wpAnyH_take (i := 26) (oi := { dst := some 79, op := Go.Op.pick (Go.Operand.tmp 75) (Go.Operand.tmp 78) (Go.Operand.const (Go.Value.bool false)), type := 4, pos := "law.go:76", after := #[{ on := 22, ground := Go.Ground.data }, { on := 25, ground := Go.Ground.data }, { on := 20, ground := Go.Ground.guard }], guard := some (20, false) }) (v := ?_) rfl (by kernel_rfl) (by kernel_rfl) (by kernel_rfl) (fun _ _ _ h => h) (Or.inl ⟨by rfl, ?_⟩) hHeld ?_
  rotate_left 1
  · (intro w hSw; (try dsimp only at hSw); go_simp; (try with_reducible rfl))
  simp only [Act.put, List.setIfInBounds_toArray, List.set_cons_succ, List.set_cons_zero]
  refine wpAnyH_take (i := 27) (oi := { dst := some 80, op := Go.Op.pick (Go.Operand.tmp 73) (Go.Operand.const (Go.Value.bool true)) (Go.Operand.tmp 79), type := 4, pos := "law.go:76", after := #[{ on := 20, ground := Go.Ground.data }, { on := 26, ground := Go.Ground.data }], guard := none }) (v := ?_) rfl (by kernel_rfl) (by kernel_rfl) (by kernel_rfl) (fun _ _ _ h => h) (Or.inl ⟨by rfl, ?_⟩) hHeld ?_
  rotate_left 1
  · (intro w hSw; (try dsimp only at hSw); go_simp; (try with_reducible rfl))
  simp only [Act.put, List.setIfInBounds_toArray, List.set_cons_succ, List.set_cons_zero]
  refine wpAnyH_done (by kernel_rfl) ?_ _
  refine NoPanic.normal ?_
  skip
  have kp := hp.cell
  have tp := hp.lt
  have kq := hq.cell
  have tq := hq.lt
  have kf := hf.cell
  have tf := hf.lt
  go_wp2_with fail
  clear kp tp kq tq kf tf
  refine (capAdd_yes c0 hp.num hq.num (by omega) (by omega) e2.out).mono ?_
  rintro e v13 ⟨Ag, ng, cg, rfl, hng, hnn, hb13⟩
  replace hp := hp.below hb13
  replace hq := hq.below hb13
  replace hf := hf.below hb13
  replace rx := rx.below hb13
  replace ry := ry.below hb13
  replace rs := rs.below hb13
  replace rm := rm.below hb13
  replace hW := bstep0 hW hb13
  clear hb13
  have hng1 : ng ≤ 1000 := by omega
  clear hnn
  have kp := hp.cell
  have tp := hp.lt
  have kq := hq.cell
  have tq := hq.lt
  have kf := hf.cell
  have tf := hf.lt
  go_wp2_with fail
  clear kp tp kq tq kf tf
  have hnb := (Below.refl v13.heap.size v13).alloc (Nat.le_refl _) (.cells #[.slice Ag ng cg] 28)
  have hg := Bk.new hng
  replace hp := hp.below hnb
  replace hq := hq.below hnb
  replace hf := hf.below hnb
  replace rx := rx.below hnb
  replace ry := ry.below hnb
  replace rs := rs.below hnb
  replace rm := rm.below hnb
  replace hW := bstep0 hW hnb
  clear hnb
  clear hng
  generalize v13.alloc (.cells #[.slice Ag ng cg] 28) = Vg at *
  generalize v13.heap.size = gg at *
  refine (mulNo c0 hp.num hq.num (by omega) (by omega) e3.out).mono ?_
  rintro e v14 ⟨Ah, nh, ch, rfl, hnh, hnn, hb14⟩
  replace hp := hp.below hb14
  replace hq := hq.below hb14
  replace hf := hf.below hb14
  replace hg := hg.below hb14
  replace rx := rx.below hb14
  replace ry := ry.below hb14
  replace rs := rs.below hb14
  replace rm := rm.below hb14
  replace hW := bstep0 hW hb14
  clear hb14
  have hnh1 : nh ≤ 1000 := by omega
  clear hnn
  have kp := hp.cell
  have tp := hp.lt
  have kq := hq.cell
  have tq := hq.lt
  have kf := hf.cell
  have tf := hf.lt
  have kg := hg.cell
  have tg := hg.lt
  go_wp2_with fail
  clear kp tp kq tq kf tf kg tg
  have hnb := (Below.refl v14.heap.size v14).alloc (Nat.le_refl _) (.cells #[.slice Ah nh ch] 28)
  have hh := Bk.new hnh
  replace hp := hp.below hnb
  replace hq := hq.below hnb
  replace hf := hf.below hnb
  replace hg := hg.below hnb
  replace rx := rx.below hnb
  replace ry := ry.below hnb
  replace rs := rs.below hnb
  replace rm := rm.below hnb
  replace hW := bstep0 hW hnb
  clear hnb
  clear hnh
  generalize v14.alloc (.cells #[.slice Ah nh ch] 28) = Vh at *
  generalize v14.heap.size = gh at *
  refine (refFits_yes c0 rs (by omega) e2.out).mono ?_
  rintro e v15 ⟨rfl, hb15⟩
  replace hp := hp.below hb15
  replace hq := hq.below hb15
  replace hf := hf.below hb15
  replace hg := hg.below hb15
  replace hh := hh.below hb15
  replace rx := rx.below hb15
  replace ry := ry.below hb15
  replace rs := rs.below hb15
  replace rm := rm.below hb15
  replace hW := bstep0 hW hb15
  clear hb15
  have kp := hp.cell
  have tp := hp.lt
  have kq := hq.cell
  have tq := hq.lt
  have kf := hf.cell
  have tf := hf.lt
  have kg := hg.cell
  have tg := hg.lt
  have kh := hh.cell
  have th := hh.lt
  go_wp2_with fail
  clear kp tp kq tq kf tf kg tg kh th
  refine (refFits_no c0 rm (by omega) e3.out).mono ?_
  rintro e v16 ⟨rfl, hb16⟩
  replace hp := hp.below hb16
  replace hq := hq.below hb16
  replace hf := hf.below hb16
  replace hg := hg.below hb16
  replace hh := hh.below hb16
  replace rx := rx.below hb16
  replace ry := ry.below hb16
  replace rs := rs.below hb16
  replace rm := rm.below hb16
  replace hW := bstep0 hW hb16
  clear hb16
  have kp := hp.cell
  have tp := hp.lt
  have kq := hq.cell
  have tq := hq.lt
  have kf := hf.cell
  have tf := hf.lt
  have kg := hg.cell
  have tg := hg.lt
  have kh := hh.cell
  have th := hh.lt
  go_wp2_with fail
  clear kp tp kq tq kf tf kg tg kh th
  refine (isYes hg.num rs (by omega)).mono ?_
  rintro e v17 ⟨rfl, hb17⟩
  replace hp := hp.below hb17
  replace hq := hq.below hb17
  replace hf := hf.below hb17
  replace hg := hg.below hb17
  replace hh := hh.below hb17
  replace rx := rx.below hb17
  replace ry := ry.below hb17
  replace rs := rs.below hb17
  replace rm := rm.below hb17
  replace hW := bstep0 hW hb17
  clear hb17
  have kp := hp.cell
  have tp := hp.lt
  have kq := hq.cell
  have tq := hq.lt
  have kf := hf.cell
  have tf := hf.lt
  have kg := hg.cell
  have tg := hg.lt
  have kh := hh.cell
  have th := hh.lt
  go_wp2_with fail
  clear kp tp kq tq kf tf kg tg kh th
  refine (isYes hh.num (RNum.zero _ 0) (by omega)).mono ?_
  rintro e v18 ⟨rfl, hb18⟩
  replace hp := hp.below hb18
  replace hq := hq.below hb18
  replace hf := hf.below hb18
  replace hg := hg.below hb18
  replace hh := hh.below hb18
  replace rx := rx.below hb18
  replace ry := ry.below hb18
  replace rs := rs.below hb18
  replace rm := rm.below hb18
  replace hW := bstep0 hW hb18
  clear hb18
  have kp := hp.cell
  have tp := hp.lt
  have kq := hq.cell
  have tq := hq.lt
  have kf := hf.cell
  have tf := hf.lt
  have kg := hg.cell
  have tg := hg.lt
  have kh := hh.cell
  have th := hh.lt
  go_wp2_with fail
  clear kp tp kq tq kf tf kg tg kh th
  refine (natAdd hp.num hq.num (by omega) (by omega)).mono ?_
  rintro e v19 ⟨Ai, ni, ci, rfl, hni, hnn, hb19⟩
  replace hp := hp.below hb19
  replace hq := hq.below hb19
  replace hf := hf.below hb19
  replace hg := hg.below hb19
  replace hh := hh.below hb19
  replace rx := rx.below hb19
  replace ry := ry.below hb19
  replace rs := rs.below hb19
  replace rm := rm.below hb19
  replace hW := bstep0 hW hb19
  clear hb19
  have kp := hp.cell
  have tp := hp.lt
  have kq := hq.cell
  have tq := hq.lt
  have kf := hf.cell
  have tf := hf.lt
  have kg := hg.cell
  have tg := hg.lt
  have kh := hh.cell
  have th := hh.lt
  go_wp2_with fail
  clear kp tp kq tq kf tf kg tg kh th
  refine (isYes hni rs (by omega)).mono ?_
  rintro e v20 ⟨rfl, hb20⟩
  replace hp := hp.below hb20
  replace hq := hq.below hb20
  replace hf := hf.below hb20
  replace hg := hg.below hb20
  replace hh := hh.below hb20
  replace rx := rx.below hb20
  replace ry := ry.below hb20
  replace rs := rs.below hb20
  replace rm := rm.below hb20
  replace hW := bstep0 hW hb20
  clear hb20
  clear hni hnn
  have kp := hp.cell
  have tp := hp.lt
  have kq := hq.cell
  have tq := hq.lt
  have kf := hf.cell
  have tf := hf.lt
  have kg := hg.cell
  have tg := hg.lt
  have kh := hh.cell
  have th := hh.lt
  go_wp2_with fail
  clear kp tp kq tq kf tf kg tg kh th
  refine (natMul hp.num hq.num (by omega) (by omega)).mono ?_
  rintro e v21 ⟨Ai, ni, ci, rfl, hni, hnn, hb21⟩
  replace hp := hp.below hb21
  replace hq := hq.below hb21
  replace hf := hf.below hb21
  replace hg := hg.below hb21
  replace hh := hh.below hb21
  replace rx := rx.below hb21
  replace ry := ry.below hb21
  replace rs := rs.below hb21
  replace rm := rm.below hb21
  replace hW := bstep0 hW hb21
  clear hb21
  have kp := hp.cell
  have tp := hp.lt
  have kq := hq.cell
  have tq := hq.lt
  have kf := hf.cell
  have tf := hf.lt
  have kg := hg.cell
  have tg := hg.lt
  have kh := hh.cell
  have th := hh.lt
  go_wp2_with fail
  clear kp tp kq tq kf tf kg tg kh th
  refine (isYes hni rm (by omega)).mono ?_
  rintro e v22 ⟨rfl, hb22⟩
  replace hp := hp.below hb22
  replace hq := hq.below hb22
  replace hf := hf.below hb22
  replace hg := hg.below hb22
  replace hh := hh.below hb22
  replace rx := rx.below hb22
  replace ry := ry.below hb22
  replace rs := rs.below hb22
  replace rm := rm.below hb22
  replace hW := bstep0 hW hb22
  clear hb22
  clear hni hnn
  have kp := hp.cell
  have tp := hp.lt
  have kq := hq.cell
  have tq := hq.lt
  have kf := hf.cell
  have tf := hf.lt
  have kg := hg.cell
  have tg := hg.lt
  have kh := hh.cell
  have th := hh.lt
  go_wp2_with fail
  clear kp tp kq tq kf tf kg tg kh th
  refine (natSum _ 3 3 (mid X Y) _ (nrow_mid hp hq (by omega) (by omega) rfl) (by omega) (small_mid (by omega) (by omega) rfl)).mono ?_
  rintro e v23 ⟨Ai, ni, ci, rfl, hni, hnn, hb23⟩
  have hb23 := ((Below.refl _ _).alloc (Nat.le_refl _) _).trans (hb23.mono (Nat.le_of_lt (by simp)))
  replace hp := hp.below hb23
  replace hq := hq.below hb23
  replace hf := hf.below hb23
  replace hg := hg.below hb23
  replace hh := hh.below hb23
  replace rx := rx.below hb23
  replace ry := ry.below hb23
  replace rs := rs.below hb23
  replace rm := rm.below hb23
  replace hW := bstep0 hW hb23
  clear hb23
  rw [e4.out] at hni
  have kp := hp.cell
  have tp := hp.lt
  have kq := hq.cell
  have tq := hq.lt
  have kf := hf.cell
  have tf := hf.lt
  have kg := hg.cell
  have tg := hg.lt
  have kh := hh.cell
  have th := hh.lt
  go_wp2_with fail
  clear kp tp kq tq kf tf kg tg kh th
  refine (refAdd rs rx (by omega) (by omega)).mono ?_
  rintro e v24 ⟨Aj, nj, cj, rfl, rj, hnj, hb24⟩
  replace hp := hp.below hb24
  replace hq := hq.below hb24
  replace hf := hf.below hb24
  replace hg := hg.below hb24
  replace hh := hh.below hb24
  replace rx := rx.below hb24
  replace ry := ry.below hb24
  replace rs := rs.below hb24
  replace rm := rm.below hb24
  replace hni := hni.below hb24
  replace hW := bstep0 hW hb24
  clear hb24
  have kp := hp.cell
  have tp := hp.lt
  have kq := hq.cell
  have tq := hq.lt
  have kf := hf.cell
  have tf := hf.lt
  have kg := hg.cell
  have tg := hg.lt
  have kh := hh.cell
  have th := hh.lt
  go_wp2_with fail
  clear kp tp kq tq kf tf kg tg kh th
  refine (isYes hni rj (by omega)).mono ?_
  rintro e v25 ⟨rfl, hb25⟩
  replace hp := hp.below hb25
  replace hq := hq.below hb25
  replace hf := hf.below hb25
  replace hg := hg.below hb25
  replace hh := hh.below hb25
  replace rx := rx.below hb25
  replace ry := ry.below hb25
  replace rs := rs.below hb25
  replace rm := rm.below hb25
  replace hW := bstep0 hW hb25
  clear hb25
  clear hni hnn rj hnj
  have kp := hp.cell
  have tp := hp.lt
  have kq := hq.cell
  have tq := hq.lt
  have kf := hf.cell
  have tf := hf.lt
  have kg := hg.cell
  have tg := hg.lt
  have kh := hh.cell
  have th := hh.lt
  go_wp2_with fail
  clear kp tp kq tq kf tf kg tg kh th
  refine (natSum none 0 0 (mid 0 0) _ (fun i hi => absurd hi (by omega)) (by omega) (fun i hi => absurd hi (by omega))).mono ?_
  rintro e v26 ⟨Ai, ni, ci, rfl, hni, hnn, hb26⟩
  replace hp := hp.below hb26
  replace hq := hq.below hb26
  replace hf := hf.below hb26
  replace hg := hg.below hb26
  replace hh := hh.below hb26
  replace rx := rx.below hb26
  replace ry := ry.below hb26
  replace rs := rs.below hb26
  replace rm := rm.below hb26
  replace hW := bstep0 hW hb26
  clear hb26
  have kp := hp.cell
  have tp := hp.lt
  have kq := hq.cell
  have tq := hq.lt
  have kf := hf.cell
  have tf := hf.lt
  have kg := hg.cell
  have tg := hg.lt
  have kh := hh.cell
  have th := hh.lt
  go_wp2_with fail
  clear kp tp kq tq kf tf kg tg kh th
  refine (isYes hni (RNum.zero _ 0) (by omega)).mono ?_
  rintro e v27 ⟨rfl, hb27⟩
  replace hp := hp.below hb27
  replace hq := hq.below hb27
  replace hf := hf.below hb27
  replace hg := hg.below hb27
  replace hh := hh.below hb27
  replace rx := rx.below hb27
  replace ry := ry.below hb27
  replace rs := rs.below hb27
  replace rm := rm.below hb27
  replace hW := bstep0 hW hb27
  clear hb27
  clear hni hnn
  have kp := hp.cell
  have tp := hp.lt
  have kq := hq.cell
  have tq := hq.lt
  have kf := hf.cell
  have tf := hf.lt
  have kg := hg.cell
  have tg := hg.lt
  have kh := hh.cell
  have th := hh.lt
  go_wp2_with fail
  clear kp tp kq tq kf tf kg tg kh th
  rcases Nat.lt_or_ge (capN c0) n1 with hk | hk
  · have hfx := Lib.hid (fun h => Nat.not_le.2 hk ((hp.num.fit c0).2 h))
    refine (capFits_no c0 A1 n1 c1 hk _).mono ?_
    rintro e v28 ⟨rfl, hb28⟩
    replace hp := hp.below hb28
    replace hq := hq.below hb28
    replace hf := hf.below hb28
    replace hg := hg.below hb28
    replace hh := hh.below hb28
    replace rx := rx.below hb28
    replace ry := ry.below hb28
    replace rs := rs.below hb28
    replace rm := rm.below hb28
    replace hW := bstep0 hW hb28
    clear hb28
    clear hk
    have kp := hp.cell
    have tp := hp.lt
    have kq := hq.cell
    have tq := hq.lt
    have kf := hf.cell
    have tf := hf.lt
    have kg := hg.cell
    have tg := hg.lt
    have kh := hh.cell
    have th := hh.lt
    go_wp2_with fail
    clear kp tp kq tq kf tf kg tg kh th
    refine (refFits_no c0 rx (by omega) hfx.out).mono ?_
    rintro e v29 ⟨rfl, hb29⟩
    replace hp := hp.below hb29
    replace hq := hq.below hb29
    replace hf := hf.below hb29
    replace hg := hg.below hb29
    replace hh := hh.below hb29
    replace rx := rx.below hb29
    replace ry := ry.below hb29
    replace rs := rs.below hb29
    replace rm := rm.below hb29
    replace hW := bstep0 hW hb29
    clear hb29
    have kp := hp.cell
    have tp := hp.lt
    have kq := hq.cell
    have tq := hq.lt
    have kf := hf.cell
    have tf := hf.lt
    have kg := hg.cell
    have tg := hg.lt
    have kh := hh.cell
    have th := hh.lt
    go_wp2_with fail
    clear kp tp kq tq kf tf kg tg kh th
    refine (isYes hp.num rx (by omega)).mono ?_
    rintro e v30 ⟨rfl, hb30⟩
    replace hp := hp.below hb30
    replace hq := hq.below hb30
    replace hf := hf.below hb30
    replace hg := hg.below hb30
    replace hh := hh.below hb30
    replace rx := rx.below hb30
    replace ry := ry.below hb30
    replace rs := rs.below hb30
    replace rm := rm.below hb30
    replace hW := bstep0 hW hb30
    clear hb30
    have kp := hp.cell
    have tp := hp.lt
    have kq := hq.cell
    have tq := hq.lt
    have kf := hf.cell
    have tf := hf.lt
    have kg := hg.cell
    have tg := hg.lt
    have kh := hh.cell
    have th := hh.lt
    go_wp2_with fail
    clear kp tp kq tq kf tf kg tg kh th
    refine (isYes hq.num ry (by omega)).mono ?_
    rintro e v31 ⟨rfl, hb31⟩
    replace hp := hp.below hb31
    replace hq := hq.below hb31
    replace hf := hf.below hb31
    replace hg := hg.below hb31
    replace hh := hh.below hb31
    replace rx := rx.below hb31
    replace ry := ry.below hb31
    replace rs := rs.below hb31
    replace rm := rm.below hb31
    replace hW := bstep0 hW hb31
    clear hb31
    have kp := hp.cell
    have tp := hp.lt
    have kq := hq.cell
    have tq := hq.lt
    have kf := hf.cell
    have tf := hf.lt
    have kg := hg.cell
    have tg := hg.lt
    have kh := hh.cell
    have th := hh.lt
    go_wp2_with fail
    clear kp tp kq tq kf tf kg tg kh th
    refine (works_any _).mono ?_
    rintro e v32 ⟨rfl, hb32⟩
    replace hp := hp.below hb32
    replace hq := hq.below hb32
    replace hf := hf.below hb32
    replace hg := hg.below hb32
    replace hh := hh.below hb32
    replace rx := rx.below hb32
    replace ry := ry.below hb32
    replace rs := rs.below hb32
    replace rm := rm.below hb32
    replace hW := bstep0 hW hb32
    clear hb32
    have kp := hp.cell
    have tp := hp.lt
    have kq := hq.cell
    have tq := hq.lt
    have kf := hf.cell
    have tf := hf.lt
    have kg := hg.cell
    have tg := hg.lt
    have kh := hh.cell
    have th := hh.lt
    go_wp2_with fail
    clear kp tp kq tq kf tf kg tg kh th
    go_ret
    exact ⟨rfl, hW⟩
  · have hfx := Lib.hid ((hp.num.fit c0).1 hk)
    refine (capFits_yes c0 A1 n1 c1 hk _).mono ?_
    rintro e v28 ⟨rfl, hb28⟩
    replace hp := hp.below hb28
    replace hq := hq.below hb28
    replace hf := hf.below hb28
    replace hg := hg.below hb28
    replace hh := hh.below hb28
    replace rx := rx.below hb28
    replace ry := ry.below hb28
    replace rs := rs.below hb28
    replace rm := rm.below hb28
    replace hW := bstep0 hW hb28
    clear hb28
    clear hk
    have kp := hp.cell
    have tp := hp.lt
    have kq := hq.cell
    have tq := hq.lt
    have kf := hf.cell
    have tf := hf.lt
    have kg := hg.cell
    have tg := hg.lt
    have kh := hh.cell
    have th := hh.lt
    go_wp2_with fail
    clear kp tp kq tq kf tf kg tg kh th
    refine (refFits_yes c0 rx (by omega) hfx.out).mono ?_
    rintro e v29 ⟨rfl, hb29⟩
    replace hp := hp.below hb29
    replace hq := hq.below hb29
    replace hf := hf.below hb29
    replace hg := hg.below hb29
    replace hh := hh.below hb29
    replace rx := rx.below hb29
    replace ry := ry.below hb29
    replace rs := rs.below hb29
    replace rm := rm.below hb29
    replace hW := bstep0 hW hb29
    clear hb29
    have kp := hp.cell
    have tp := hp.lt
    have kq := hq.cell
    have tq := hq.lt
    have kf := hf.cell
    have tf := hf.lt
    have kg := hg.cell
    have tg := hg.lt
    have kh := hh.cell
    have th := hh.lt
    go_wp2_with fail
    clear kp tp kq tq kf tf kg tg kh th
    refine (isYes hp.num rx (by omega)).mono ?_
    rintro e v30 ⟨rfl, hb30⟩
    replace hp := hp.below hb30
    replace hq := hq.below hb30
    replace hf := hf.below hb30
    replace hg := hg.below hb30
    replace hh := hh.below hb30
    replace rx := rx.below hb30
    replace ry := ry.below hb30
    replace rs := rs.below hb30
    replace rm := rm.below hb30
    replace hW := bstep0 hW hb30
    clear hb30
    have kp := hp.cell
    have tp := hp.lt
    have kq := hq.cell
    have tq := hq.lt
    have kf := hf.cell
    have tf := hf.lt
    have kg := hg.cell
    have tg := hg.lt
    have kh := hh.cell
    have th := hh.lt
    go_wp2_with fail
    clear kp tp kq tq kf tf kg tg kh th
    refine (isYes hq.num ry (by omega)).mono ?_
    rintro e v31 ⟨rfl, hb31⟩
    replace hp := hp.below hb31
    replace hq := hq.below hb31
    replace hf := hf.below hb31
    replace hg := hg.below hb31
    replace hh := hh.below hb31
    replace rx := rx.below hb31
    replace ry := ry.below hb31
    replace rs := rs.below hb31
    replace rm := rm.below hb31
    replace hW := bstep0 hW hb31
    clear hb31
    have kp := hp.cell
    have tp := hp.lt
    have kq := hq.cell
    have tq := hq.lt
    have kf := hf.cell
    have tf := hf.lt
    have kg := hg.cell
    have tg := hg.lt
    have kh := hh.cell
    have th := hh.lt
    go_wp2_with fail
    clear kp tp kq tq kf tf kg tg kh th
    refine (works_any _).mono ?_
    rintro e v32 ⟨rfl, hb32⟩
    replace hp := hp.below hb32
    replace hq := hq.below hb32
    replace hf := hf.below hb32
    replace hg := hg.below hb32
    replace hh := hh.below hb32
    replace rx := rx.below hb32
    replace ry := ry.below hb32
    replace rs := rs.below hb32
    replace rm := rm.below hb32
    replace hW := bstep0 hW hb32
    clear hb32
    have kp := hp.cell
    have tp := hp.lt
    have kq := hq.cell
    have tq := hq.lt
    have kf := hf.cell
    have tf := hf.lt
    have kg := hg.cell
    have tg := hg.lt
    have kh := hh.cell
    have th := hh.lt
    go_wp2_with fail
    clear kp tp kq tq kf tf kg tg kh th
    go_ret
    exact ⟨rfl, hW⟩

set_option maxRecDepth 100000 in
set_option maxHeartbeats 4000000 in
theorem natReckons_gnp (A B : Option Addr) (n m c c' : Nat) (c0 : Int) (l1 l2 : List Nat) (w : World) (ha : Row w w.heap.size .u64 A n l1) (hb : Row w w.heap.size .u64 B m l2) (ba : Dig.Below LB l1) (bb : Dig.Below LB l2)
    (hn : n ≤ 40) (hm : m ≤ 40) (hnc : n ≤ c) (hmc : m ≤ c') (hcm : c ≤ maxLen) (hcm' : c' ≤ maxLen) (X Y : Nat) (hX : Hid (Dig.val LB l1 = X)) (hY : Hid (Dig.val LB l2 = Y)) (e0 : Hid (Y ≤ X)) (e2 : Hid (¬ Fit c0 (X + Y))) (e3 : Hid (Fit c0 (X * Y))) :
    Calls Try.prog 4 #[.slice A n c, .slice B m c', .int .i64 c0] w fun e w' => e = .returned (.bool true) ∧ Below w.heap.size w w' := by
  have e4 := Lib.hid (sum_mid X Y)
  obtain ⟨z, hz1, hz2⟩ : ∃ z : Int, cmpI X Y = z ∧ 0 ≤ z := ⟨_, rfl, by have := e0.out; unfold cmpI; rw [if_neg (by omega)]; split <;> omega⟩
  have e1 := Lib.hid hz1
  have hz3 : decide (z < 0) = false := by simp; omega
  clear hz1 hz2
  go_enter Try.func4, Try.ntmps4
  go_wp2_with fail
  refine (refOf A n c l1 _ ha ba (by omega)).mono ?_
  rintro e v1 ⟨Ax, nx, cx, rfl, rx, hnx, hW⟩
  go_wp2_with fail
  refine (refOf B m c' l2 _ ((hb.below hW).more hW.size) bb (by omega)).mono ?_
  rintro e v2 ⟨Ay, ny, cy, rfl, ry, hny, hb2⟩
  rw [hX.out] at rx
  rw [hY.out] at ry
  replace rx := rx.below hb2
  replace hW := bstep0 hW hb2
  have ra := (ha.below hW).more hW.size
  have rb := (hb.below hW).more hW.size
  clear hb2 ha hb
  go_wp2_with fail
  refine (natLimbs A n c l1 _ ra ba hnc hcm (by omega)).mono ?_
  rintro e v3 ⟨A1, n1, c1, rfl, hp, hn1, hb3⟩
  rw [hX.out] at hp
  replace rx := rx.below hb3
  replace ry := ry.below hb3
  replace hW := bstep0 hW hb3
  replace rb := (rb.below hb3).more hb3.size
  clear ra hb3
  go_wp2_with fail
  refine (natLimbs B m c' l2 _ rb bb hmc hcm' (by omega)).mono ?_
  rintro e v4 ⟨A2, n2, c2, rfl, hq, hn2, hb4⟩
  rw [hY.out] at hq
  replace rx := rx.below hb4
  replace ry := ry.below hb4
  replace hp := hp.below hb4
  replace hW := bstep0 hW hb4
  clear rb hb4
  have hn1' : n1 ≤ 1000 := by omega
  have hn2' : n2 ≤ 1000 := by omega
  have hnx' : nx ≤ 320 := by omega
  have hny' : ny ≤ 320 := by omega
  have hn1 : n1 ≤ 40 := by omega
  have hn2 : n2 ≤ 40 := by omega
  clear hnx hny
  go_wp2_with fail
  have hb5 : Below v4.heap.size v4 ((v4.alloc (.cells #[.slice A1 n1 c1] 28)).alloc (.cells #[.slice A2 n2 c2] 28)) := by go_grown
  have hp : Bk ((v4.alloc (.cells #[.slice A1 n1 c1] 28)).alloc (.cells #[.slice A2 n2 c2] 28)) v4.heap.size A1 n1 c1 _ X := ⟨by simp [go_sem], by simp [go_sem], hp.below hb5⟩
  have hq : Bk ((v4.alloc (.cells #[.slice A1 n1 c1] 28)).alloc (.cells #[.slice A2 n2 c2] 28)) (v4.heap.size + 1) A2 n2 c2 _ Y := ⟨by simp [go_sem], by simp [go_sem], hq.below hb5⟩
  replace rx := rx.below hb5
  replace ry := ry.below hb5
  replace hW := bstep0 hW hb5
  clear hb5
  generalize (v4.alloc (.cells #[.slice A1 n1 c1] 28)).alloc (.cells #[.slice A2 n2 c2] 28) = V at *
  generalize v4.heap.size + 1 = gq at *
  generalize v4.heap.size = gp at *
  refine (refAdd rx ry (by omega) (by omega)).mono ?_
  rintro e v5 ⟨As, ns, cs, rfl, rs, hns, hb5⟩
  replace hp := hp.below hb5
  replace hq := hq.below hb5
  replace rx := rx.below hb5
  replace ry := ry.below hb5
  replace hW := bstep0 hW hb5
  clear hb5
  go_wp2_with fail
  refine (refMul rx ry (by omega) (by omega)).mono ?_
  rintro e v6 ⟨Am, nm, cm, rfl, rm, hnm, hb6⟩
  replace hp := hp.below hb6
  replace hq := hq.below hb6
  replace rx := rx.below hb6
  replace ry := ry.below hb6
  replace rs := rs.below hb6
  replace hW := bstep0 hW hb6
  clear hb6
  have hns' : ns ≤ 1000 := by omega
  have hnm' : nm ≤ 1000 := by omega
  clear hns hnm
  have kp := hp.cell
  have kq := hq.cell
  go_wp2_with fail
  clear kp kq
  refine (natSub hp.num hq.num e0.out (by omega) (by omega)).mono ?_
  rintro e v11 ⟨Af, nf, cf, rfl, hnf, hnn, hb11⟩
  replace hp := hp.below hb11
  replace hq := hq.below hb11
  replace rx := rx.below hb11
  replace ry := ry.below hb11
  replace rs := rs.below hb11
  replace rm := rm.below hb11
  replace hW := bstep0 hW hb11
  clear hb11
  have hnf1 : nf ≤ 1000 := by omega
  clear hnn
  have kp := hp.cell
  have tp := hp.lt
  have kq := hq.cell
  have tq := hq.lt
  go_wp2_with fail
  clear kp tp kq tq
  have hnb := (Below.refl v11.heap.size v11).alloc (Nat.le_refl _) (.cells #[.slice Af nf cf] 28)
  have hf := Bk.new hnf
  replace hp := hp.below hnb
  replace hq := hq.below hnb
  replace rx := rx.below hnb
  replace ry := ry.below hnb
  replace rs := rs.below hnb
  replace rm := rm.below hnb
  replace hW := bstep0 hW hnb
  clear hnb
  clear hnf
  generalize v11.alloc (.cells #[.slice Af nf cf] 28) = Vf at *
  generalize v11.heap.size = gf at *
  refine (natCmpZ rx ry e1.out).mono ?_
  rintro e v12 ⟨rfl, hb12⟩
  replace hp := hp.below hb12
  replace hq := hq.below hb12
  replace hf := hf.below hb12
  replace rx := rx.below hb12
  replace ry := ry.below hb12
  replace rs := rs.below hb12
  replace rm := rm.below hb12
  replace hW := bstep0 hW hb12
  clear hb12
  have kp := hp.cell
  have tp := hp.lt
  have kq := hq.cell
  have tq := hq.lt
  have kf := hf.cell
  have tf := hf.lt
  go_wp2_with fail
  clear kp tp kq tq kf tf
  replace hp := hp.below ((Below.refl _ _).drew)
  replace hq := hq.below ((Below.refl _ _).drew)
  replace hf := hf.below ((Below.refl _ _).drew)
  replace rx := rx.below ((Below.refl _ _).drew)
  replace ry := ry.below ((Below.refl _ _).drew)
  replace rs := rs.below ((Below.refl _ _).drew)
  replace rm := rm.below ((Below.refl _ _).drew)
  replace hW := bstep0 hW ((Below.refl _ _).drew)
  refine wp_region_noPanic ?_
  refine wp_region_held_drew (S := fun w' => w'.cell? ⟨gf, 0, none⟩ = some (.slice Af nf cf)) (by kernel_rfl) (hf.cell) (fun hHeld => ?_)
  refine wpAnyH_take (i := 0) (oi := { dst := some 53, op := Go.Op.move (Go.Operand.tmp 15), type := 4, pos := "law.go:76", after := #[], guard := none }) (v := ?_) rfl (by kernel_rfl) (by kernel_rfl) (by kernel_rfl) (fun _ _ _ h => h) (Or.inl ⟨by rfl, ?_⟩) hHeld ?_
  rotate_left 1
  · (intro w hSw; (try dsimp only at hSw); go_simp; (try with_reducible rfl))
  simp only [Act.put, List.setIfInBounds_toArray, List.set_cons_succ, List.set_cons_zero]
  refine wpAnyH_take (i := 1) (oi := { dst := some 54, op := Go.Op.move (Go.Operand.tmp 14), type := 40, pos := "law.go:76", after := #[], guard := none }) (v := ?_) rfl (by kernel_rfl) (by kernel_rfl) (by kernel_rfl) (fun _ _ _ h => h) (Or.inl ⟨by rfl, ?_⟩) hHeld ?_
  rotate_left 1
  · (intro w hSw; (try dsimp only at hSw); go_simp; (try with_reducible rfl))
  simp only [Act.put, List.setIfInBounds_toArray, List.set_cons_succ, List.set_cons_zero]
  refine wpAnyH_take (i := 2) (oi := { dst := some 55, op := Go.Op.binOp Go.BinOp.eql 40 (Go.Operand.tmp 54) (Go.Operand.const (Go.Value.int Go.IntKind.i64 11)) 40, type := 4, pos := "law.go:76", after := #[{ on := 1, ground := Go.Ground.data }], guard := none }) (v := ?_) rfl (by kernel_rfl) (by kernel_rfl) (by kernel_rfl) (fun _ _ _ h => h) (Or.inl ⟨by rfl, ?_⟩) hHeld ?_
  rotate_left 1
  · (intro w hSw; (try dsimp only at hSw); go_simp; (try with_reducible rfl))
  simp only [Act.put, List.setIfInBounds_toArray, List.set_cons_succ, List.set_cons_zero]
  refine wpAnyH_take (i := 3) (oi := { dst := some 56, op := Go.Op.binOp Go.BinOp.neq 4 (Go.Operand.tmp 53) (Go.Operand.tmp 55) 4, type := 4, pos := "law.go:76", after := #[{ on := 0, ground := Go.Ground.data }, { on := 2, ground := Go.Ground.data }], guard := none }) (v := ?_) rfl (by kernel_rfl) (by kernel_rfl) (by kernel_rfl) (fun _ _ _ h => h) (Or.inl ⟨by rfl, ?_⟩) hHeld ?_
  rotate_left 1
  · (intro w hSw; (try dsimp only at hSw); go_simp; (try with_reducible rfl))
  simp only [Act.put, List.setIfInBounds_toArray, List.set_cons_succ, List.set_cons_zero]
  refine wpAnyH_take (i := 4) (oi := { dst := some 57, op := Go.Op.move (Go.Operand.tmp 56), type := 4, pos := "law.go:76", after := #[{ on := 3, ground := Go.Ground.data }], guard := none }) (v := ?_) rfl (by kernel_rfl) (by kernel_rfl) (by kernel_rfl) (fun _ _ _ h => h) (Or.inl ⟨by rfl, ?_⟩) hHeld ?_
  rotate_left 1
  · (intro w hSw; (try dsimp only at hSw); go_simp; (try with_reducible rfl))
  simp only [Act.put, List.setIfInBounds_toArray, List.set_cons_succ, List.set_cons_zero]
  refine wpAnyH_take (i := 5) (oi := { dst := some 58, op := Go.Op.move (Go.Operand.tmp 15), type := 4, pos := "law.go:76", after := #[{ on := 4, ground := Go.Ground.guard }], guard := some (4, false) }) (v := ?_) rfl (by kernel_rfl) (by kernel_rfl) (by kernel_rfl) (fun _ _ _ h => h) (Or.inl ⟨by rfl, ?_⟩) hHeld ?_
  rotate_left 1
  · (intro w hSw; (try dsimp only at hSw); go_simp; (try with_reducible rfl))
  simp only [Act.put, List.setIfInBounds_toArray, List.set_cons_succ, List.set_cons_zero]
  refine wpAnyH_take (i := 6) (oi := { dst := some 59, op := Go.Op.unOp Go.UnOp.not 4 (Go.Operand.tmp 58), type := 4, pos := "law.go:76", after := #[{ on := 5, ground := Go.Ground.data }, { on := 4, ground := Go.Ground.guard }], guard := some (4, false) }) (v := ?_) rfl (by kernel_rfl) (by kernel_rfl) (by kernel_rfl) (fun _ _ _ h => h) (Or.inl ⟨by rfl, ?_⟩) hHeld ?_
  rotate_left 1
  · (intro w hSw; (try dsimp only at hSw); go_simp; (try with_reducible rfl))
  simp only [Act.put, List.setIfInBounds_toArray, List.set_cons_succ, List.set_cons_zero]
  refine wpAnyH_take (i := 7) (oi := { dst := some 60, op := Go.Op.move (Go.Operand.tmp 59), type := 4, pos := "law.go:76", after := #[{ on := 6, ground := Go.Ground.data }, { on := 4, ground := Go.Ground.chain }, { on := 4, ground := Go.Ground.guard }], guard := some (4, false) }) (v := ?_) rfl (by kernel_rfl) (by kernel_rfl) (by kernel_rfl) (fun _ _ _ h => h) (Or.inl ⟨by rfl, ?_⟩) hHeld ?_
  rotate_left 1
  · (intro w hSw; (try dsimp only at hSw); go_simp; (try with_reducible rfl))
  simp only [Act.put, List.setIfInBounds_toArray, List.set_cons_succ, List.set_cons_zero]
  refine wpAnyH_take (i := 8) (oi := { dst := some 61, op := Go.Op.move (Go.Operand.tmp 14), type := 40, pos := "law.go:76", after := #[{ on := 7, ground := Go.Ground.guard }], guard := some (7, true) }) (v := ?_) rfl (by kernel_rfl) (by kernel_rfl) (by kernel_rfl) (fun _ _ _ h => h) (Or.inl ⟨by rfl, ?_⟩) hHeld ?_
  rotate_left 1
  · (intro w hSw; (try dsimp only at hSw); go_simp; (try with_reducible rfl))
  simp only [Act.put, List.setIfInBounds_toArray, List.set_cons_succ, List.set_cons_zero]
  refine wpAnyH_take (i := 9) (oi := { dst := some 62, op := Go.Op.binOp Go.BinOp.neq 40 (Go.Operand.tmp 61) (Go.Operand.const (Go.Value.int Go.IntKind.i64 0)) 40, type := 4, pos := "law.go:76", after := #[{ on := 8, ground := Go.Ground.data }, { on := 7, ground := Go.Ground.guard }], guard := some (7, true) }) (v := ?_) rfl (by kernel_rfl) (by kernel_rfl) (by kernel_rfl) (fun _ _ _ h => h) (Or.inl ⟨by rfl, ?_⟩) hHeld ?_
  rotate_left 1
  · (intro w hSw; (try dsimp only at hSw); go_simp; (try with_reducible rfl))
  simp only [Act.put, List.setIfInBounds_toArray, List.set_cons_succ, List.set_cons_zero]
  refine wpAnyH_take (i := 10) (oi := { dst := some 63, op := Go.Op.move (Go.Operand.tmp 62), type := 4, pos := "law.go:76", after := #[{ on := 9, ground := Go.Ground.data }, { on := 7, ground := Go.Ground.chain }, { on := 7, ground := Go.Ground.guard }], guard := some (7, true) }) (v := ?_) rfl (by kernel_rfl) (by kernel_rfl) (by kernel_rfl) (fun _ _ _ h => h) (Or.inl ⟨by rfl, ?_⟩) hHeld ?_
  rotate_left 1
  · (intro w hSw; (try dsimp only at hSw); go_simp; (try with_reducible rfl))
  simp only [Act.put, List.setIfInBounds_toArray, List.set_cons_succ, List.set_cons_zero]
  refine wpAnyH_take (i := 11) (oi := { dst := some 64, op := Go.Op.load 28 (Go.Operand.tmp 13), type := 28, pos := "law.go:76", after := #[{ on := 10, ground := Go.Ground.guard }], guard := some (10, false) }) (v := ?_) rfl (by kernel_rfl) (by kernel_rfl) (by kernel_rfl) (fun _ _ _ h => h) (Or.inl ⟨by rfl, ?_⟩) hHeld ?_
  rotate_left 1
  · (intro w hSw; (try dsimp only at hSw); go_simp; (try with_reducible rfl))
  simp only [Act.put, List.setIfInBounds_toArray, List.set_cons_succ, List.set_cons_zero]
  refine wpAnyH_take (i := 12) (oi := { dst := some 65, op := Go.Op.move (Go.Operand.tmp 7), type := 25, pos := "law.go:76", after := #[{ on := 10, ground := Go.Ground.guard }], guard := some (10, false) }) (v := ?_) rfl (by kernel_rfl) (by kernel_rfl) (by kernel_rfl) (fun _ _ _ h => h) (Or.inl ⟨by rfl, ?_⟩) hHeld ?_
  rotate_left 1
  · (intro w hSw; (try dsimp only at hSw); go_simp; (try with_reducible rfl))
  simp only [Act.put, List.setIfInBounds_toArray, List.set_cons_succ, List.set_cons_zero]
  refine wpAnyH_take (i := 13) (oi := { dst := some 66, op := Go.Op.move (Go.Operand.tmp 8), type := 25, pos := "law.go:76", after := #[{ on := 10, ground := Go.Ground.guard }], guard := some (10, false) }) (v := ?_) rfl (by kernel_rfl) (by kernel_rfl) (by kernel_rfl) (fun _ _ _ h => h) (Or.inl ⟨by rfl, ?_⟩) hHeld ?_
  rotate_left 1
  · (intro w hSw; (try dsimp only at hSw); go_simp; (try with_reducible rfl))
  simp only [Act.put, List.setIfInBounds_toArray, List.set_cons_succ, List.set_cons_zero]
  refine wpAnyH_ready (rs := [14]) (by kernel_rfl) (by simp) ?_
  refine AllReadyH.cons (o := { dst := some 67, op := Go.Op.call { callee := Go.Callee.value (Go.Operand.func 20), args := #[Go.Operand.tmp 65, Go.Operand.tmp 66], argTypes := #[25, 25] }, type := 25, pos := "law.go:76", after := #[{ on := 12, ground := Go.Ground.data }, { on := 13, ground := Go.Ground.data }, { on := 10, ground := Go.Ground.chain }, { on := 10, ground := Go.Ground.guard }], guard := some (10, false) }) rfl (fun K hK => ?_) AllReadyH.nil
  go_simp
  refine (refSub rx ry e0.out (by omega)).mono ?_
  rintro e vr1 ⟨Ad, nd, cd, rfl, rd, hnd, hbr1⟩
  replace hp := hp.below hbr1
  replace hq := hq.below hbr1
  replace hf := hf.below hbr1
  replace rx := rx.below hbr1
  replace ry := ry.below hbr1
  replace rs := rs.below hbr1
  replace rm := rm.below hbr1
  replace hW := bstep0 hW hbr1
  clear hbr1
  refine hK.out _ _ (hf.cell) (fun hHeld => ?_)
  clear hK K
  refine wpAnyH_ready (rs := [15]) (by kernel_rfl) (by simp) ?_
  refine AllReadyH.cons (o := { dst := some 68, op := Go.Op.call { callee := Go.Callee.value (Go.Operand.func 12), args := #[Go.Operand.tmp 64, Go.Operand.tmp 67], argTypes := #[28, 25] }, type := 4, pos := "law.go:76", after := #[{ on := 11, ground := Go.Ground.data }, { on := 14, ground := Go.Ground.data }, { on := 14, ground := Go.Ground.chain }, { on := 10, ground := Go.Ground.guard }], guard := some (10, false) }) rfl (fun K hK => ?_) AllReadyH.nil
  go_simp
  refine (isYes hf.num rd (by omega)).mono ?_
  rintro e vr2 ⟨rfl, hbr2⟩
  replace hp := hp.below hbr2
  replace hq := hq.below hbr2
  replace hf := hf.below hbr2
  replace rx := rx.below hbr2
  replace ry := ry.below hbr2
  replace rs := rs.below hbr2
  replace rm := rm.below hbr2
  replace hW := bstep0 hW hbr2
  clear hbr2
  refine hK.out _ _ (hf.cell) (fun hHeld => ?_)
  clear hK K
  refine wpAnyH_take (i := 16) (oi := { dst := some 69, op := Go.Op.unOp Go.UnOp.not 4 (Go.Operand.tmp 68), type := 4, pos := "law.go:76", after := #[{ on := 15, ground := Go.Ground.data }, { on := 10, ground := Go.Ground.guard }], guard := some (10, false) }) (v := ?_) rfl (by kernel_rfl) (by kernel_rfl) (by kernel_rfl) (fun _ _ _ h => h) (Or.inl ⟨by rfl, ?_⟩) hHeld ?_
  rotate_left 1
  · (intro w hSw; (try dsimp only at hSw); go_simp; (try with_reducible rfl))
  simp only [Act.put, List.setIfInBounds_toArray, List.set_cons_succ, List.set_cons_zero]
  refine wpAnyH_take (i := 17) (oi := { dst := some 70, op := Go.Op.pick (Go.Operand.tmp 63) (Go.Operand.const (Go.Value.bool true)) (Go.Operand.tmp 69), type := 4, pos := "law.go:76", after := #[{ on := 10, ground := Go.Ground.data }, { on := 16, ground := Go.Ground.data }, { on := 7, ground := Go.Ground.guard }], guard := some (7, true) }) (v := ?_) rfl (by kernel_rfl) (by kernel_rfl) (by kernel_rfl) (fun _ _ _ h => h) (Or.inl ⟨by rfl, ?_⟩) hHeld ?_
  rotate_left 1
  · (intro w hSw; (try dsimp only at hSw); go_simp; (try with_reducible rfl))
  simp only [Act.put, List.setIfInBounds_toArray, List.set_cons_succ, List.set_cons_zero]
  refine wpAnyH_take (i := 18) (oi := { dst := some 71, op := Go.Op.pick (Go.Operand.tmp 60) (Go.Operand.tmp 70) (Go.Operand.const (Go.Value.bool false)), type := 4, pos := "law.go:76", after := #[{ on := 7, ground := Go.Ground.data }, { on := 17, ground := Go.Ground.data }, { on := 4, ground := Go.Ground.guard }], guard := some (4, false) }) (v := ?_) rfl (by kernel_rfl) (by kernel_rfl) (by kernel_rfl) (fun _ _ _ h => h) (Or.inl ⟨by rfl, ?_⟩) hHeld ?_
  rotate_left 1
  · (intro w hSw; (try dsimp only at hSw); go_simp; (try with_reducible rfl))
  simp only [Act.put, List.setIfInBounds_toArray, List.set_cons_succ, List.set_cons_zero]
  refine wpAnyH_take (i := 19) (oi := { dst := some 72, op := Go.Op.pick (Go.Operand.tmp 57) (Go.Operand.const (Go.Value.bool true)) (Go.Operand.tmp 71), type := 4, pos := "law.go:76", after := #[{ on := 4, ground := Go.Ground.data }, { on := 18, ground := Go.Ground.data }], guard := none }) (v := ?_) rfl (by kernel_rfl) (by kernel_rfl) (by kernel_rfl) (fun _ _ _ h => h) (Or.inl ⟨by rfl, ?_⟩) hHeld ?_
  rotate_left 1
  · (intro w hSw; (try dsimp only at hSw); go_simp; (try with_reducible rfl))
  simp only [Act.put, List.setIfInBounds_toArray, List.set_cons_succ, List.set_cons_zero]
  refine wpAnyH_take (i := 20) (oi := { dst := some 73, op := Go.Op.move (Go.Operand.tmp 72), type := 4, pos := "law.go:76", after := #[{ on := 19, ground := Go.Ground.data }, { on := 15, ground := Go.Ground.chain }], guard := none }) (v := ?_) rfl (by kernel_rfl) (by kernel_rfl) (by kernel_rfl) (fun _ _ _ h => h) (Or.inl ⟨by rfl, ?_⟩) hHeld ?_
  rotate_left 1
  · (intro w hSw; (try dsimp only at hSw); go_simp; (try with_reducible rfl))
  simp only [Act.put, List.setIfInBounds_toArray, List.set_cons_succ, List.set_cons_zero]
  refine wpAnyH_take (i := 21) (oi := { dst := some 74, op := Go.Op.move (Go.Operand.tmp 15), type := 4, pos := "law.go:76", after := #[{ on := 20, ground := Go.Ground.guard }], guard := some (20, false) }) (v := ?_) rfl (by kernel_rfl) (by kernel_rfl) (by kernel_rfl) (fun _ _ _ h => h) (Or.inl ⟨by rfl, ?_⟩) hHeld ?_
  rotate_left 1
  · (intro w hSw; (try dsimp only at hSw); go_simp; (try with_reducible rfl))
  simp only [Act.put, List.setIfInBounds_toArray, List.set_cons_succ, List.set_cons_zero]
  refine wpAnyH_take (i := 22) (oi := { dst := some 75, op := Go.Op.move (Go.Operand.tmp 74), type := 4, pos := "law.go:76", after := #[{ on := 21, ground := Go.Ground.data }, { on := 20, ground := Go.Ground.chain }, { on := 20, ground := Go.Ground.guard }], guard := some (20, false) }) (v := ?_) rfl (by kernel_rfl) (by kernel_rfl) (by kernel_rfl) (fun _ _ _ h => h) (Or.inl ⟨by rfl, ?_⟩) hHeld ?_
  rotate_left 1
  · (intro w hSw; (try dsimp only at hSw); go_simp; (try with_reducible rfl))
  simp only [Act.put, List.setIfInBounds_toArray, List.set_cons_succ, List.set_cons_zero]
  refine wpAnyH_take (i := 23) (oi := { dst := some 76, op := Go.Op.load 28 (Go.Operand.tmp 13), type := 28, pos := "law.go:76", after := #[{ on := 22, ground := Go.Ground.guard }], guard := some (22, true) }) (v := undef) rfl (by kernel_rfl) (by kernel_rfl) (by kernel_rfl) (fun _ _ _ h => h) (Or.inr ⟨by rfl, rfl⟩) hHeld ?_
  simp only [Act.put, List.setIfInBounds_toArray, List.set_cons_succ, List.set_cons_zero]
  refine wpAnyH_take (i := 24) (oi := { dst := some 77, op := Go.Op.call { callee := Go.Callee.value (Go.Operand.func 12), args := #[Go.Operand.tmp 76, Go.Operand.const (Go.Value.slice none 0 0)], argTypes := #[28, 25] }, type := 4, pos := "law.go:76", after := #[{ on := 23, ground := Go.Ground.data }, { on := 22, ground := Go.Ground.chain }, { on := 22, ground := Go.Ground.guard }], guard := some (22, true) }) (v := undef) rfl (by kernel_rfl) (by kernel_rfl) (by kernel_rfl) (fun _ _ _ h => h) (Or.inr ⟨by rfl, rfl⟩) hHeld ?_
  simp only [Act.put, List.setIfInBounds_toArray, List.set_cons_succ, List.set_cons_zero]
  refine wpAnyH_take (i := 25) (oi := { dst := some 78, op := Go.Op.unOp Go.UnOp.not 4 (Go.Operand.tmp 77), type := 4, pos := "law.go:76", after := #[{ on := 24, ground := Go.Ground.data }, { on := 22, ground := Go.Ground.guard }], guard := some (22, true) }) (v := undef) rfl (by kernel_rfl) (by kernel_rfl) (by kernel_rfl) (fun _ _ _ h => h) (Or.inr ⟨by rfl, rfl⟩) hHeld ?_
  simp only [Act.put, List.setIfInBounds_toArray, List.set_cons_succ, List.set_cons_zero]
  refine wpAnyH_take (i := 26) (oi := { dst := some 79, op := Go.Op.pick (Go.Operand.tmp 75) (Go.Operand.tmp 78) (Go.Operand.const (Go.Value.bool false)), type := 4, pos := "law.go:76", after := #[{ on := 22, ground := Go.Ground.data }, { on := 25, ground := Go.Ground.data }, { on := 20, ground := Go.Ground.guard }], guard := some (20, false) }) (v := ?_) rfl (by kernel_rfl) (by kernel_rfl) (by kernel_rfl) (fun _ _ _ h => h) (Or.inl ⟨by rfl, ?_⟩) hHeld ?_
  rotate_left 1
  · (intro w hSw; (try dsimp only at hSw); go_simp; (try with_reducible rfl))
  simp only [Act.put, List.setIfInBounds_toArray, List.set_cons_succ, List.set_cons_zero]
  refine wpAnyH_take (i := 27) (oi := { dst := some 80, op := Go.Op.pick (Go.Operand.tmp 73) (Go.Operand.const (Go.Value.bool true)) (Go.Operand.tmp 79), type := 4, pos := "law.go:76", after := #[{ on := 20, ground := Go.Ground.data }, { on := 26, ground := Go.Ground.data }], guard := none }) (v := ?_) rfl (by kernel_rfl) (by kernel_rfl) (by kernel_rfl) (fun _ _ _ h => h) (Or.inl ⟨by rfl, ?_⟩) hHeld ?_
  rotate_left 1
  · (intro w hSw; (try dsimp only at hSw); go_simp; (try with_reducible rfl))
  simp only [Act.put, List.setIfInBounds_toArray, List.set_cons_succ, List.set_cons_zero]
  refine wpAnyH_done (by kernel_rfl) ?_ _
  refine NoPanic.normal ?_
  skip
  have kp := hp.cell
  have tp := hp.lt
  have kq := hq.cell
  have tq := hq.lt
  have kf := hf.cell
  have tf := hf.lt
  go_wp2_with fail
  clear kp tp kq tq kf tf
  refine (addNo c0 hp.num hq.num (by omega) (by omega) e2.out).mono ?_
  rintro e v13 ⟨Ag, ng, cg, rfl, hng, hnn, hb13⟩
  replace hp := hp.below hb13
  replace hq := hq.below hb13
  replace hf := hf.below hb13
  replace rx := rx.below hb13
  replace ry := ry.below hb13
  replace rs := rs.below hb13
  replace rm := rm.below hb13
  replace hW := bstep0 hW hb13
  clear hb13
  have hng1 : ng ≤ 1000 := by omega
  clear hnn
  have kp := hp.cell
  have tp := hp.lt
  have kq := hq.cell
  have tq := hq.lt
  have kf := hf.cell
  have tf := hf.lt
  go_wp2_with fail
  clear kp tp kq tq kf tf
  have hnb := (Below.refl v13.heap.size v13).alloc (Nat.le_refl _) (.cells #[.slice Ag ng cg] 28)
  have hg := Bk.new hng
  replace hp := hp.below hnb
  replace hq := hq.below hnb
  replace hf := hf.below hnb
  replace rx := rx.below hnb
  replace ry := ry.below hnb
  replace rs := rs.below hnb
  replace rm := rm.below hnb
  replace hW := bstep0 hW hnb
  clear hnb
  clear hng
  generalize v13.alloc (.cells #[.slice Ag ng cg] 28) = Vg at *
  generalize v13.heap.size = gg at *
  refine (capMul_yes c0 hp.num hq.num (by omega) (by omega) e3.out).mono ?_
  rintro e v14 ⟨Ah, nh, ch, rfl, hnh, hnn, hb14⟩
  replace hp := hp.below hb14
  replace hq := hq.below hb14
  replace hf := hf.below hb14
  replace hg := hg.below hb14
  replace rx := rx.below hb14
  replace ry := ry.below hb14
  replace rs := rs.below hb14
  replace rm := rm.below hb14
  replace hW := bstep0 hW hb14
  clear hb14
  have hnh1 : nh ≤ 1000 := by omega
  clear hnn
  have kp := hp.cell
  have tp := hp.lt
  have kq := hq.cell
  have tq := hq.lt
  have kf := hf.cell
  have tf := hf.lt
  have kg := hg.cell
  have tg := hg.lt
  go_wp2_with fail
  clear kp tp kq tq kf tf kg tg
  have hnb := (Below.refl v14.heap.size v14).alloc (Nat.le_refl _) (.cells #[.slice Ah nh ch] 28)
  have hh := Bk.new hnh
  replace hp := hp.below hnb
  replace hq := hq.below hnb
  replace hf := hf.below hnb
  replace hg := hg.below hnb
  replace rx := rx.below hnb
  replace ry := ry.below hnb
  replace rs := rs.below hnb
  replace rm := rm.below hnb
  replace hW := bstep0 hW hnb
  clear hnb
  clear hnh
  generalize v14.alloc (.cells #[.slice Ah nh ch] 28) = Vh at *
  generalize v14.heap.size = gh at *
  refine (refFits_no c0 rs (by omega) e2.out).mono ?_
  rintro e v15 ⟨rfl, hb15⟩
  replace hp := hp.below hb15
  replace hq := hq.below hb15
  replace hf := hf.below hb15
  replace hg := hg.below hb15
  replace hh := hh.below hb15
  replace rx := rx.below hb15
  replace ry := ry.below hb15
  replace rs := rs.below hb15
  replace rm := rm.below hb15
  replace hW := bstep0 hW hb15
  clear hb15
  have kp := hp.cell
  have tp := hp.lt
  have kq := hq.cell
  have tq := hq.lt
  have kf := hf.cell
  have tf := hf.lt
  have kg := hg.cell
  have tg := hg.lt
  have kh := hh.cell
  have th := hh.lt
  go_wp2_with fail
  clear kp tp kq tq kf tf kg tg kh th
  refine (refFits_yes c0 rm (by omega) e3.out).mono ?_
  rintro e v16 ⟨rfl, hb16⟩
  replace hp := hp.below hb16
  replace hq := hq.below hb16
  replace hf := hf.below hb16
  replace hg := hg.below hb16
  replace hh := hh.below hb16
  replace rx := rx.below hb16
  replace ry := ry.below hb16
  replace rs := rs.below hb16
  replace rm := rm.below hb16
  replace hW := bstep0 hW hb16
  clear hb16
  have kp := hp.cell
  have tp := hp.lt
  have kq := hq.cell
  have tq := hq.lt
  have kf := hf.cell
  have tf := hf.lt
  have kg := hg.cell
  have tg := hg.lt
  have kh := hh.cell
  have th := hh.lt
  go_wp2_with fail
  clear kp tp kq tq kf tf kg tg kh th
  refine (isYes hg.num (RNum.zero _ 0) (by omega)).mono ?_
  rintro e v17 ⟨rfl, hb17⟩
  replace hp := hp.below hb17
  replace hq := hq.below hb17
  replace hf := hf.below hb17
  replace hg := hg.below hb17
  replace hh := hh.below hb17
  replace rx := rx.below hb17
  replace ry := ry.below hb17
  replace rs := rs.below hb17
  replace rm := rm.below hb17
  replace hW := bstep0 hW hb17
  clear hb17
  have kp := hp.cell
  have tp := hp.lt
  have kq := hq.cell
  have tq := hq.lt
  have kf := hf.cell
  have tf := hf.lt
  have kg := hg.cell
  have tg := hg.lt
  have kh := hh.cell
  have th := hh.lt
  go_wp2_with fail
  clear kp tp kq tq kf tf kg tg kh th
  refine (isYes hh.num rm (by omega)).mono ?_
  rintro e v18 ⟨rfl, hb18⟩
  replace hp := hp.below hb18
  replace hq := hq.below hb18
  replace hf := hf.below hb18
  replace hg := hg.below hb18
  replace hh := hh.below hb18
  replace rx := rx.below hb18
  replace ry := ry.below hb18
  replace rs := rs.below hb18
  replace rm := rm.below hb18
  replace hW := bstep0 hW hb18
  clear hb18
  have kp := hp.cell
  have tp := hp.lt
  have kq := hq.cell
  have tq := hq.lt
  have kf := hf.cell
  have tf := hf.lt
  have kg := hg.cell
  have tg := hg.lt
  have kh := hh.cell
  have th := hh.lt
  go_wp2_with fail
  clear kp tp kq tq kf tf kg tg kh th
  refine (natAdd hp.num hq.num (by omega) (by omega)).mono ?_
  rintro e v19 ⟨Ai, ni, ci, rfl, hni, hnn, hb19⟩
  replace hp := hp.below hb19
  replace hq := hq.below hb19
  replace hf := hf.below hb19
  replace hg := hg.below hb19
  replace hh := hh.below hb19
  replace rx := rx.below hb19
  replace ry := ry.below hb19
  replace rs := rs.below hb19
  replace rm := rm.below hb19
  replace hW := bstep0 hW hb19
  clear hb19
  have kp := hp.cell
  have tp := hp.lt
  have kq := hq.cell
  have tq := hq.lt
  have kf := hf.cell
  have tf := hf.lt
  have kg := hg.cell
  have tg := hg.lt
  have kh := hh.cell
  have th := hh.lt
  go_wp2_with fail
  clear kp tp kq tq kf tf kg tg kh th
  refine (isYes hni rs (by omega)).mono ?_
  rintro e v20 ⟨rfl, hb20⟩
  replace hp := hp.below hb20
  replace hq := hq.below hb20
  replace hf := hf.below hb20
  replace hg := hg.below hb20
  replace hh := hh.below hb20
  replace rx := rx.below hb20
  replace ry := ry.below hb20
  replace rs := rs.below hb20
  replace rm := rm.below hb20
  replace hW := bstep0 hW hb20
  clear hb20
  clear hni hnn
  have kp := hp.cell
  have tp := hp.lt
  have kq := hq.cell
  have tq := hq.lt
  have kf := hf.cell
  have tf := hf.lt
  have kg := hg.cell
  have tg := hg.lt
  have kh := hh.cell
  have th := hh.lt
  go_wp2_with fail
  clear kp tp kq tq kf tf kg tg kh th
  refine (natMul hp.num hq.num (by omega) (by omega)).mono ?_
  rintro e v21 ⟨Ai, ni, ci, rfl, hni, hnn, hb21⟩
  replace hp := hp.below hb21
  replace hq := hq.below hb21
  replace hf := hf.below hb21
  replace hg := hg.below hb21
  replace hh := hh.below hb21
  replace rx := rx.below hb21
  replace ry := ry.below hb21
  replace rs := rs.below hb21
  replace rm := rm.below hb21
  replace hW := bstep0 hW hb21
  clear hb21
  have kp := hp.cell
  have tp := hp.lt
  have kq := hq.cell
  have tq := hq.lt
  have kf := hf.cell
  have tf := hf.lt
  have kg := hg.cell
  have tg := hg.lt
  have kh := hh.cell
  have th := hh.lt
  go_wp2_with fail
  clear kp tp kq tq kf tf kg tg kh th
  refine (isYes hni rm (by omega)).mono ?_
  rintro e v22 ⟨rfl, hb22⟩
  replace hp := hp.below hb22
  replace hq := hq.below hb22
  replace hf := hf.below hb22
  replace hg := hg.below hb22
  replace hh := hh.below hb22
  replace rx := rx.below hb22
  replace ry := ry.below hb22
  replace rs := rs.below hb22
  replace rm := rm.below hb22
  replace hW := bstep0 hW hb22
  clear hb22
  clear hni hnn
  have kp := hp.cell
  have tp := hp.lt
  have kq := hq.cell
  have tq := hq.lt
  have kf := hf.cell
  have tf := hf.lt
  have kg := hg.cell
  have tg := hg.lt
  have kh := hh.cell
  have th := hh.lt
  go_wp2_with fail
  clear kp tp kq tq kf tf kg tg kh th
  refine (natSum _ 3 3 (mid X Y) _ (nrow_mid hp hq (by omega) (by omega) rfl) (by omega) (small_mid (by omega) (by omega) rfl)).mono ?_
  rintro e v23 ⟨Ai, ni, ci, rfl, hni, hnn, hb23⟩
  have hb23 := ((Below.refl _ _).alloc (Nat.le_refl _) _).trans (hb23.mono (Nat.le_of_lt (by simp)))
  replace hp := hp.below hb23
  replace hq := hq.below hb23
  replace hf := hf.below hb23
  replace hg := hg.below hb23
  replace hh := hh.below hb23
  replace rx := rx.below hb23
  replace ry := ry.below hb23
  replace rs := rs.below hb23
  replace rm := rm.below hb23
  replace hW := bstep0 hW hb23
  clear hb23
  rw [e4.out] at hni
  have kp := hp.cell
  have tp := hp.lt
  have kq := hq.cell
  have tq := hq.lt
  have kf := hf.cell
  have tf := hf.lt
  have kg := hg.cell
  have tg := hg.lt
  have kh := hh.cell
  have th := hh.lt
  go_wp2_with fail
  clear kp tp kq tq kf tf kg tg kh th
  refine (refAdd rs rx (by omega) (by omega)).mono ?_
  rintro e v24 ⟨Aj, nj, cj, rfl, rj, hnj, hb24⟩
  replace hp := hp.below hb24
  replace hq := hq.below hb24
  replace hf := hf.below hb24
  replace hg := hg.below hb24
  replace hh := hh.below hb24
  replace rx := rx.below hb24
  replace ry := ry.below hb24
  replace rs := rs.below hb24
  replace rm := rm.below hb24
  replace hni := hni.below hb24
  replace hW := bstep0 hW hb24
  clear hb24
  have kp := hp.cell
  have tp := hp.lt
  have kq := hq.cell
  have tq := hq.lt
  have kf := hf.cell
  have tf := hf.lt
  have kg := hg.cell
  have tg := hg.lt
  have kh := hh.cell
  have th := hh.lt
  go_wp2_with fail
  clear kp tp kq tq kf tf kg tg kh th
  refine (isYes hni rj (by omega)).mono ?_
  rintro e v25 ⟨rfl, hb25⟩
  replace hp := hp.below hb25
  replace hq := hq.below hb25
  replace hf := hf.below hb25
  replace hg := hg.below hb25
  replace hh := hh.below hb25
  replace rx := rx.below hb25
  replace ry := ry.below hb25
  replace rs := rs.below hb25
  replace rm := rm.below hb25
  replace hW := bstep0 hW hb25
  clear hb25
  clear hni hnn rj hnj
  have kp := hp.cell
  have tp := hp.lt
  have kq := hq.cell
  have tq := hq.lt
  have kf := hf.cell
  have tf := hf.lt
  have kg := hg.cell
  have tg := hg.lt
  have kh := hh.cell
  have th := hh.lt
  go_wp2_with fail
  clear kp tp kq tq kf tf kg tg kh th
  refine (natSum none 0 0 (mid 0 0) _ (fun i hi => absurd hi (by omega)) (by omega) (fun i hi => absurd hi (by omega))).mono ?_
  rintro e v26 ⟨Ai, ni, ci, rfl, hni, hnn, hb26⟩
  replace hp := hp.below hb26
  replace hq := hq.below hb26
  replace hf := hf.below hb26
  replace hg := hg.below hb26
  replace hh := hh.below hb26
  replace rx := rx.below hb26
  replace ry := ry.below hb26
  replace rs := rs.below hb26
  replace rm := rm.below hb26
  replace hW := bstep0 hW hb26
  clear hb26
  have kp := hp.cell
  have tp := hp.lt
  have kq := hq.cell
  have tq := hq.lt
  have kf := hf.cell
  have tf := hf.lt
  have kg := hg.cell
  have tg := hg.lt
  have kh := hh.cell
  have th := hh.lt
  go_wp2_with fail
  clear kp tp kq tq kf tf kg tg kh th
  refine (isYes hni (RNum.zero _ 0) (by omega)).mono ?_
  rintro e v27 ⟨rfl, hb27⟩
  replace hp := hp.below hb27
  replace hq := hq.below hb27
  replace hf := hf.below hb27
  replace hg := hg.below hb27
  replace hh := hh.below hb27
  replace rx := rx.below hb27
  replace ry := ry.below hb27
  replace rs := rs.below hb27
  replace rm := rm.below hb27
  replace hW := bstep0 hW hb27
  clear hb27
  clear hni hnn
  have kp := hp.cell
  have tp := hp.lt
  have kq := hq.cell
  have tq := hq.lt
  have kf := hf.cell
  have tf := hf.lt
  have kg := hg.cell
  have tg := hg.lt
  have kh := hh.cell
  have th := hh.lt
  go_wp2_with fail
  clear kp tp kq tq kf tf kg tg kh th
  rcases Nat.lt_or_ge (capN c0) n1 with hk | hk
  · have hfx := Lib.hid (fun h => Nat.not_le.2 hk ((hp.num.fit c0).2 h))
    refine (capFits_no c0 A1 n1 c1 hk _).mono ?_
    rintro e v28 ⟨rfl, hb28⟩
    replace hp := hp.below hb28
    replace hq := hq.below hb28
    replace hf := hf.below hb28
    replace hg := hg.below hb28
    replace hh := hh.below hb28
    replace rx := rx.below hb28
    replace ry := ry.below hb28
    replace rs := rs.below hb28
    replace rm := rm.below hb28
    replace hW := bstep0 hW hb28
    clear hb28
    clear hk
    have kp := hp.cell
    have tp := hp.lt
    have kq := hq.cell
    have tq := hq.lt
    have kf := hf.cell
    have tf := hf.lt
    have kg := hg.cell
    have tg := hg.lt
    have kh := hh.cell
    have th := hh.lt
    go_wp2_with fail
    clear kp tp kq tq kf tf kg tg kh th
    refine (refFits_no c0 rx (by omega) hfx.out).mono ?_
    rintro e v29 ⟨rfl, hb29⟩
    replace hp := hp.below hb29
    replace hq := hq.below hb29
    replace hf := hf.below hb29
    replace hg := hg.below hb29
    replace hh := hh.below hb29
    replace rx := rx.below hb29
    replace ry := ry.below hb29
    replace rs := rs.below hb29
    replace rm := rm.below hb29
    replace hW := bstep0 hW hb29
    clear hb29
    have kp := hp.cell
    have tp := hp.lt
    have kq := hq.cell
    have tq := hq.lt
    have kf := hf.cell
    have tf := hf.lt
    have kg := hg.cell
    have tg := hg.lt
    have kh := hh.cell
    have th := hh.lt
    go_wp2_with fail
    clear kp tp kq tq kf tf kg tg kh th
    refine (isYes hp.num rx (by omega)).mono ?_
    rintro e v30 ⟨rfl, hb30⟩
    replace hp := hp.below hb30
    replace hq := hq.below hb30
    replace hf := hf.below hb30
    replace hg := hg.below hb30
    replace hh := hh.below hb30
    replace rx := rx.below hb30
    replace ry := ry.below hb30
    replace rs := rs.below hb30
    replace rm := rm.below hb30
    replace hW := bstep0 hW hb30
    clear hb30
    have kp := hp.cell
    have tp := hp.lt
    have kq := hq.cell
    have tq := hq.lt
    have kf := hf.cell
    have tf := hf.lt
    have kg := hg.cell
    have tg := hg.lt
    have kh := hh.cell
    have th := hh.lt
    go_wp2_with fail
    clear kp tp kq tq kf tf kg tg kh th
    refine (isYes hq.num ry (by omega)).mono ?_
    rintro e v31 ⟨rfl, hb31⟩
    replace hp := hp.below hb31
    replace hq := hq.below hb31
    replace hf := hf.below hb31
    replace hg := hg.below hb31
    replace hh := hh.below hb31
    replace rx := rx.below hb31
    replace ry := ry.below hb31
    replace rs := rs.below hb31
    replace rm := rm.below hb31
    replace hW := bstep0 hW hb31
    clear hb31
    have kp := hp.cell
    have tp := hp.lt
    have kq := hq.cell
    have tq := hq.lt
    have kf := hf.cell
    have tf := hf.lt
    have kg := hg.cell
    have tg := hg.lt
    have kh := hh.cell
    have th := hh.lt
    go_wp2_with fail
    clear kp tp kq tq kf tf kg tg kh th
    refine (works_any _).mono ?_
    rintro e v32 ⟨rfl, hb32⟩
    replace hp := hp.below hb32
    replace hq := hq.below hb32
    replace hf := hf.below hb32
    replace hg := hg.below hb32
    replace hh := hh.below hb32
    replace rx := rx.below hb32
    replace ry := ry.below hb32
    replace rs := rs.below hb32
    replace rm := rm.below hb32
    replace hW := bstep0 hW hb32
    clear hb32
    have kp := hp.cell
    have tp := hp.lt
    have kq := hq.cell
    have tq := hq.lt
    have kf := hf.cell
    have tf := hf.lt
    have kg := hg.cell
    have tg := hg.lt
    have kh := hh.cell
    have th := hh.lt
    go_wp2_with fail
    clear kp tp kq tq kf tf kg tg kh th
    go_ret
    exact ⟨rfl, hW⟩
  · have hfx := Lib.hid ((hp.num.fit c0).1 hk)
    refine (capFits_yes c0 A1 n1 c1 hk _).mono ?_
    rintro e v28 ⟨rfl, hb28⟩
    replace hp := hp.below hb28
    replace hq := hq.below hb28
    replace hf := hf.below hb28
    replace hg := hg.below hb28
    replace hh := hh.below hb28
    replace rx := rx.below hb28
    replace ry := ry.below hb28
    replace rs := rs.below hb28
    replace rm := rm.below hb28
    replace hW := bstep0 hW hb28
    clear hb28
    clear hk
    have kp := hp.cell
    have tp := hp.lt
    have kq := hq.cell
    have tq := hq.lt
    have kf := hf.cell
    have tf := hf.lt
    have kg := hg.cell
    have tg := hg.lt
    have kh := hh.cell
    have th := hh.lt
    go_wp2_with fail
    clear kp tp kq tq kf tf kg tg kh th
    refine (refFits_yes c0 rx (by omega) hfx.out).mono ?_
    rintro e v29 ⟨rfl, hb29⟩
    replace hp := hp.below hb29
    replace hq := hq.below hb29
    replace hf := hf.below hb29
    replace hg := hg.below hb29
    replace hh := hh.below hb29
    replace rx := rx.below hb29
    replace ry := ry.below hb29
    replace rs := rs.below hb29
    replace rm := rm.below hb29
    replace hW := bstep0 hW hb29
    clear hb29
    have kp := hp.cell
    have tp := hp.lt
    have kq := hq.cell
    have tq := hq.lt
    have kf := hf.cell
    have tf := hf.lt
    have kg := hg.cell
    have tg := hg.lt
    have kh := hh.cell
    have th := hh.lt
    go_wp2_with fail
    clear kp tp kq tq kf tf kg tg kh th
    refine (isYes hp.num rx (by omega)).mono ?_
    rintro e v30 ⟨rfl, hb30⟩
    replace hp := hp.below hb30
    replace hq := hq.below hb30
    replace hf := hf.below hb30
    replace hg := hg.below hb30
    replace hh := hh.below hb30
    replace rx := rx.below hb30
    replace ry := ry.below hb30
    replace rs := rs.below hb30
    replace rm := rm.below hb30
    replace hW := bstep0 hW hb30
    clear hb30
    have kp := hp.cell
    have tp := hp.lt
    have kq := hq.cell
    have tq := hq.lt
    have kf := hf.cell
    have tf := hf.lt
    have kg := hg.cell
    have tg := hg.lt
    have kh := hh.cell
    have th := hh.lt
    go_wp2_with fail
    clear kp tp kq tq kf tf kg tg kh th
    refine (isYes hq.num ry (by omega)).mono ?_
    rintro e v31 ⟨rfl, hb31⟩
    replace hp := hp.below hb31
    replace hq := hq.below hb31
    replace hf := hf.below hb31
    replace hg := hg.below hb31
    replace hh := hh.below hb31
    replace rx := rx.below hb31
    replace ry := ry.below hb31
    replace rs := rs.below hb31
    replace rm := rm.below hb31
    replace hW := bstep0 hW hb31
    clear hb31
    have kp := hp.cell
    have tp := hp.lt
    have kq := hq.cell
    have tq := hq.lt
    have kf := hf.cell
    have tf := hf.lt
    have kg := hg.cell
    have tg := hg.lt
    have kh := hh.cell
    have th := hh.lt
    go_wp2_with fail
    clear kp tp kq tq kf tf kg tg kh th
    refine (works_any _).mono ?_
    rintro e v32 ⟨rfl, hb32⟩
    replace hp := hp.below hb32
    replace hq := hq.below hb32
    replace hf := hf.below hb32
    replace hg := hg.below hb32
    replace hh := hh.below hb32
    replace rx := rx.below hb32
    replace ry := ry.below hb32
    replace rs := rs.below hb32
    replace rm := rm.below hb32
    replace hW := bstep0 hW hb32
    clear hb32
    have kp := hp.cell
    have tp := hp.lt
    have kq := hq.cell
    have tq := hq.lt
    have kf := hf.cell
    have tf := hf.lt
    have kg := hg.cell
    have tg := hg.lt
    have kh := hh.cell
    have th := hh.lt
    go_wp2_with fail
    clear kp tp kq tq kf tf kg tg kh th
    go_ret
    exact ⟨rfl, hW⟩

set_option maxRecDepth 100000 in
set_option maxHeartbeats 4000000 in
theorem natReckons_gnn (A B : Option Addr) (n m c c' : Nat) (c0 : Int) (l1 l2 : List Nat) (w : World) (ha : Row w w.heap.size .u64 A n l1) (hb : Row w w.heap.size .u64 B m l2) (ba : Dig.Below LB l1) (bb : Dig.Below LB l2)
    (hn : n ≤ 40) (hm : m ≤ 40) (hnc : n ≤ c) (hmc : m ≤ c') (hcm : c ≤ maxLen) (hcm' : c' ≤ maxLen) (X Y : Nat) (hX : Hid (Dig.val LB l1 = X)) (hY : Hid (Dig.val LB l2 = Y)) (e0 : Hid (Y ≤ X)) (e2 : Hid (¬ Fit c0 (X + Y))) (e3 : Hid (¬ Fit c0 (X * Y))) :
    Calls Try.prog 4 #[.slice A n c, .slice B m c', .int .i64 c0] w fun e w' => e = .returned (.bool true) ∧ Below w.heap.size w w' := by
  have e4 := Lib.hid (sum_mid X Y)
  obtain ⟨z, hz1, hz2⟩ : ∃ z : Int, cmpI X Y = z ∧ 0 ≤ z := ⟨_, rfl, by have := e0.out; unfold cmpI; rw [if_neg (by omega)]; split <;> omega⟩
  have e1 := Lib.hid hz1
  have hz3 : decide (z < 0) = false := by simp; omega
  clear hz1 hz2
  go_enter Try.func4, Try.ntmps4
  go_wp2_with fail
  refine (refOf A n c l1 _ ha ba (by omega)).mono ?_
  rintro e v1 ⟨Ax, nx, cx, rfl, rx, hnx, hW⟩
  go_wp2_with fail
  refine (refOf B m c' l2 _ ((hb.below hW).more hW.size) bb (by omega)).mono ?_
  rintro e v2 ⟨Ay, ny, cy, rfl, ry, hny, hb2⟩
  rw [hX.out] at rx
  rw [hY.out] at ry
  replace rx := rx.below hb2
  replace hW := bstep0 hW hb2
  have ra := (ha.below hW).more hW.size
  have rb := (hb.below hW).more hW.size
  clear hb2 ha hb
  go_wp2_with fail
  refine (natLimbs A n c l1 _ ra ba hnc hcm (by omega)).mono ?_
  rintro e v3 ⟨A1, n1, c1, rfl, hp, hn1, hb3⟩
  rw [hX.out] at hp
  replace rx := rx.below hb3
  replace ry := ry.below hb3
  replace hW := bstep0 hW hb3
  replace rb := (rb.below hb3).more hb3.size
  clear ra hb3
  go_wp2_with fail
  refine (natLimbs B m c' l2 _ rb bb hmc hcm' (by omega)).mono ?_
  rintro e v4 ⟨A2, n2, c2, rfl, hq, hn2, hb4⟩
  rw [hY.out] at hq
  replace rx := rx.below hb4
  replace ry := ry.below hb4
  replace hp := hp.below hb4
  replace hW := bstep0 hW hb4
  clear rb hb4
  have hn1' : n1 ≤ 1000 := by omega
  have hn2' : n2 ≤ 1000 := by omega
  have hnx' : nx ≤ 320 := by omega
  have hny' : ny ≤ 320 := by omega
  have hn1 : n1 ≤ 40 := by omega
  have hn2 : n2 ≤ 40 := by omega
  clear hnx hny
  go_wp2_with fail
  have hb5 : Below v4.heap.size v4 ((v4.alloc (.cells #[.slice A1 n1 c1] 28)).alloc (.cells #[.slice A2 n2 c2] 28)) := by go_grown
  have hp : Bk ((v4.alloc (.cells #[.slice A1 n1 c1] 28)).alloc (.cells #[.slice A2 n2 c2] 28)) v4.heap.size A1 n1 c1 _ X := ⟨by simp [go_sem], by simp [go_sem], hp.below hb5⟩
  have hq : Bk ((v4.alloc (.cells #[.slice A1 n1 c1] 28)).alloc (.cells #[.slice A2 n2 c2] 28)) (v4.heap.size + 1) A2 n2 c2 _ Y := ⟨by simp [go_sem], by simp [go_sem], hq.below hb5⟩
  replace rx := rx.below hb5
  replace ry := ry.below hb5
  replace hW := bstep0 hW hb5
  clear hb5
  generalize (v4.alloc (.cells #[.slice A1 n1 c1] 28)).alloc (.cells #[.slice A2 n2 c2] 28) = V at *
  generalize v4.heap.size + 1 = gq at *
  generalize v4.heap.size = gp at *
  refine (refAdd rx ry (by omega) (by omega)).mono ?_
  rintro e v5 ⟨As, ns, cs, rfl, rs, hns, hb5⟩
  replace hp := hp.below hb5
  replace hq := hq.below hb5
  replace rx := rx.below hb5
  replace ry := ry.below hb5
  replace hW := bstep0 hW hb5
  clear hb5
  go_wp2_with fail
  refine (refMul rx ry (by omega) (by omega)).mono ?_
  rintro e v6 ⟨Am, nm, cm, rfl, rm, hnm, hb6⟩
  replace hp := hp.below hb6
  replace hq := hq.below hb6
  replace rx := rx.below hb6
  replace ry := ry.below hb6
  replace rs := rs.below hb6
  replace hW := bstep0 hW hb6
  clear hb6
  have hns' : ns ≤ 1000 := by omega
  have hnm' : nm ≤ 1000 := by omega
  clear hns hnm
  have kp := hp.cell
  have kq := hq.cell
  go_wp2_with fail
  clear kp kq
  refine (natSub hp.num hq.num e0.out (by omega) (by omega)).mono ?_
  rintro e v11 ⟨Af, nf, cf, rfl, hnf, hnn, hb11⟩
  replace hp := hp.below hb11
  replace hq := hq.below hb11
  replace rx := rx.below hb11
  replace ry := ry.below hb11
  replace rs := rs.below hb11
  replace rm := rm.below hb11
  replace hW := bstep0 hW hb11
  clear hb11
  have hnf1 : nf ≤ 1000 := by omega
  clear hnn
  have kp := hp.cell
  have tp := hp.lt
  have kq := hq.cell
  have tq := hq.lt
  go_wp2_with fail
  clear kp tp kq tq
  have hnb := (Below.refl v11.heap.size v11).alloc (Nat.le_refl _) (.cells #[.slice Af nf cf] 28)
  have hf := Bk.new hnf
  replace hp := hp.below hnb
  replace hq := hq.below hnb
  replace rx := rx.below hnb
  replace ry := ry.below hnb
  replace rs := rs.below hnb
  replace rm := rm.below hnb
  replace hW := bstep0 hW hnb
  clear hnb
  clear hnf
  generalize v11.alloc (.cells #[.slice Af nf cf] 28) = Vf at *
  generalize v11.heap.size = gf at *
  refine (natCmpZ rx ry e1.out).mono ?_
  rintro e v12 ⟨rfl, hb12⟩
  replace hp := hp.below hb12
  replace hq := hq.below hb12
  replace hf := hf.below hb12
  replace rx := rx.below hb12
  replace ry := ry.below hb12
  replace rs := rs.below hb12
  replace rm := rm.below hb12
  replace hW := bstep0 hW hb12
  clear hb12
  have kp := hp.cell
  have tp := hp.lt
  have kq := hq.cell
  have tq := hq.lt
  have kf := hf.cell
  have tf := hf.lt
  go_wp2_with fail
  clear kp tp kq tq kf tf
  replace hp := hp.below ((Below.refl _ _).drew)
  replace hq := hq.below ((Below.refl _ _).drew)
  replace hf := hf.below ((Below.refl _ _).drew)
  replace rx := rx.below ((Below.refl _ _).drew)
  replace ry := ry.below ((Below.refl _ _).drew)
  replace rs := rs.below ((Below.refl _ _).drew)
  replace rm := rm.below ((Below.refl _ _).drew)
  replace hW := bstep0 hW ((Below.refl _ _).drew)
  refine wp_region_noPanic ?_
  refine wp_region_held_drew (S := fun w' => w'.cell? ⟨gf, 0, none⟩ = some (.slice Af nf cf)) (by kernel_rfl) (hf.cell) (fun hHeld => ?_)
  refine wpAnyH_take (i := 0) (oi := { dst := some 53, op := Go.Op.move (Go.Operand.tmp 15), type := 4, pos := "law.go:76", after := #[], guard := none }) (v := ?_) rfl (by kernel_rfl) (by kernel_rfl) (by kernel_rfl) (fun _ _ _ h => h) (Or.inl ⟨by rfl, ?_⟩) hHeld ?_
  rotate_left 1
  · (intro w hSw; (try dsimp only at hSw); go_simp; (try with_reducible rfl))
  simp only [Act.put, List.setIfInBounds_toArray, List.set_cons_succ, List.set_cons_zero]
  refine wpAnyH_take (i := 1) (oi := { dst := some 54, op := Go.Op.move (Go.Operand.tmp 14), type := 40, pos := "law.go:76", after := #[], guard := none }) (v := ?_) rfl (by kernel_rfl) (by kernel_rfl) (by kernel_rfl) (fun _ _ _ h => h) (Or.inl ⟨by rfl, ?_⟩) hHeld ?_
  rotate_left 1
  · (intro w hSw; (try dsimp only at hSw); go_simp; (try with_reducible rfl))
  simp only [Act.put, List.setIfInBounds_toArray, List.set_cons_succ, List.set_cons_zero]
  refine wpAnyH_take (i := 2) (oi := { dst := some 55, op := Go.Op.binOp Go.BinOp.eql 40 (Go.Operand.tmp 54) (Go.Operand.const (Go.Value.int Go.IntKind.i64 11)) 40, type := 4, pos := "law.go:76", after := #[{ on := 1, ground := Go.Ground.data }], guard := none }) (v := ?_) rfl (by kernel_rfl) (by kernel_rfl) (by kernel_rfl) (fun _ _ _ h => h) (Or.inl ⟨by rfl, ?_⟩) hHeld ?_
  rotate_left 1
  · (intro w hSw; (try dsimp only at hSw); go_simp; (try with_reducible rfl))
  simp only [Act.put, List.setIfInBounds_toArray, List.set_cons_succ, List.set_cons_zero]
  refine wpAnyH_take (i := 3) (oi := { dst := some 56, op := Go.Op.binOp Go.BinOp.neq 4 (Go.Operand.tmp 53) (Go.Operand.tmp 55) 4, type := 4, pos := "law.go:76", after := #[{ on := 0, ground := Go.Ground.data }, { on := 2, ground := Go.Ground.data }], guard := none }) (v := ?_) rfl (by kernel_rfl) (by kernel_rfl) (by kernel_rfl) (fun _ _ _ h => h) (Or.inl ⟨by rfl, ?_⟩) hHeld ?_
  rotate_left 1
  · (intro w hSw; (try dsimp only at hSw); go_simp; (try with_reducible rfl))
  simp only [Act.put, List.setIfInBounds_toArray, List.set_cons_succ, List.set_cons_zero]
  refine wpAnyH_take (i := 4) (oi := { dst := some 57, op := Go.Op.move (Go.Operand.tmp 56), type := 4, pos := "law.go:76", after := #[{ on := 3, ground := Go.Ground.data }], guard := none }) (v := ?_) rfl (by kernel_rfl) (by kernel_rfl) (by kernel_rfl) (fun _ _ _ h => h) (Or.inl ⟨by rfl, ?_⟩) hHeld ?_
  rotate_left 1
  · (intro w hSw; (try dsimp only at hSw); go_simp; (try with_reducible rfl))
  simp only [Act.put, List.setIfInBounds_toArray, List.set_cons_succ, List.set_cons_zero]
  refine wpAnyH_take (i := 5) (oi := { dst := some 58, op := Go.Op.move (Go.Operand.tmp 15), type := 4, pos := "law.go:76", after := #[{ on := 4, ground := Go.Ground.guard }], guard := some (4, false) }) (v := ?_) rfl (by kernel_rfl) (by kernel_rfl) (by kernel_rfl) (fun _ _ _ h => h) (Or.inl ⟨by rfl, ?_⟩) hHeld ?_
  rotate_left 1
  · (intro w hSw; (try dsimp only at hSw); go_simp; (try with_reducible rfl))
  simp only [Act.put, List.setIfInBounds_toArray, List.set_cons_succ, List.set_cons_zero]
  refine wpAnyH_take (i := 6) (oi := { dst := some 59, op := Go.Op.unOp Go.UnOp.not 4 (Go.Operand.tmp 58), type := 4, pos := "law.go:76", after := #[{ on := 5, ground := Go.Ground.data }, { on := 4, ground := Go.Ground.guard }], guard := some (4, false) }) (v := ?_) rfl (by kernel_rfl) (by kernel_rfl) (by kernel_rfl) (fun _ _ _ h => h) (Or.inl ⟨by rfl, ?_⟩) hHeld ?_
  rotate_left 1
  · (intro w hSw; (try dsimp only at hSw); go_simp; (try with_reducible rfl))
  simp only [Act.put, List.setIfInBounds_toArray, List.set_cons_succ, List.set_cons_zero]
  refine wpAnyH_take (i := 7) (oi := { dst := some 60, op := Go.Op.move (Go.Operand.tmp 59), type := 4, pos := "law.go:76", after := #[{ on := 6, ground := Go.Ground.data }, { on := 4, ground := Go.Ground.chain }, { on := 4, ground := Go.Ground.guard }], guard := some (4, false) }) (v := ?_) rfl (by kernel_rfl) (by kernel_rfl) (by kernel_rfl) (fun _ _ _ h => h) (Or.inl ⟨by rfl, ?_⟩) hHeld ?_
  rotate_left 1
  · (intro w hSw; (try dsimp only at hSw); go_simp; (try with_reducible rfl))
  simp only [Act.put, List.setIfInBounds_toArray, List.set_cons_succ, List.set_cons_zero]
  refine wpAnyH_take (i := 8) (oi := { dst := some 61, op := Go.Op.move (Go.Operand.tmp 14), type := 40, pos := "law.go:76", after := #[{ on := 7, ground := Go.Ground.guard }], guard := some (7, true) }) (v := ?_) rfl (by kernel_rfl) (by kernel_rfl) (by kernel_rfl) (fun _ _ _ h => h) (Or.inl ⟨by rfl, ?_⟩) hHeld ?_
  rotate_left 1
  · (intro w hSw; (try dsimp only at hSw); go_simp; (try with_reducible rfl))
  simp only [Act.put, List.setIfInBounds_toArray, List.set_cons_succ, List.set_cons_zero]
  refine wpAnyH_take (i := 9) (oi := { dst := some 62, op := Go.Op.binOp Go.BinOp.neq 40 (Go.Operand.tmp 61) (Go.Operand.const (Go.Value.int Go.IntKind.i64 0)) 40, type := 4, pos := "law.go:76", after := #[{ on := 8, ground := Go.Ground.data }, { on := 7, ground := Go.Ground.guard }], guard := some (7, true) }) (v := ?_) rfl (by kernel_rfl) (by kernel_rfl) (by kernel_rfl) (fun _ _ _ h => h) (Or.inl ⟨by rfl, ?_⟩) hHeld ?_
  rotate_left 1
  · (intro w hSw; (try dsimp only at hSw); go_simp; (try with_reducible rfl))
  simp only [Act.put, List.setIfInBounds_toArray, List.set_cons_succ, List.set_cons_zero]
  refine wpAnyH_take (i := 10) (oi := { dst := some 63, op := Go.Op.move (Go.Operand.tmp 62), type := 4, pos := "law.go:76", after := #[{ on := 9, ground := Go.Ground.data }, { on := 7, ground := Go.Ground.chain }, { on := 7, ground := Go.Ground.guard }], guard := some (7, true) }) (v := ?_) rfl (by kernel_rfl) (by kernel_rfl) (by kernel_rfl) (fun _ _ _ h => h) (Or.inl ⟨by rfl, ?_⟩) hHeld ?_
  rotate_left 1
  · (intro w hSw; (try dsimp only at hSw); go_simp; (try with_reducible rfl))
  simp only [Act.put, List.setIfInBounds_toArray, List.set_cons_succ, List.set_cons_zero]
  refine wpAnyH_take (i := 11) (oi := { dst := some 64, op := Go.Op.load 28 (Go.Operand.tmp 13), type := 28, pos := "law.go:76", after := #[{ on := 10, ground := Go.Ground.guard }], guard := some (10, false) }) (v := ?_) rfl (by kernel_rfl) (by kernel_rfl) (by kernel_rfl) (fun _ _ _ h => h) (Or.inl ⟨by rfl, ?_⟩) hHeld ?_
  rotate_left 1
  · (intro w hSw; (try dsimp only at hSw); go_simp; (try with_reducible rfl))
  simp only [Act.put, List.setIfInBounds_toArray, List.set_cons_succ, List.set_cons_zero]
  refine wpAnyH_take (i := 12) (oi := { dst := some 65, op := Go.Op.move (Go.Operand.tmp 7), type := 25, pos := "law.go:76", after := #[{ on := 10, ground := Go.Ground.guard }], guard := some (10, false) }) (v := ?_) rfl (by kernel_rfl) (by kernel_rfl) (by kernel_rfl) (fun _ _ _ h => h) (Or.inl ⟨by rfl, ?_⟩) hHeld ?_
  rotate_left 1
  · (intro w hSw; (try dsimp only at hSw); go_simp; (try with_reducible rfl))
  simp only [Act.put, List.setIfInBounds_toArray, List.set_cons_succ, List.set_cons_zero]
  refine wpAnyH_take (i := 13) (oi := { dst := some 66, op := Go.Op.move (Go.Operand.tmp 8), type := 25, pos := "law.go:76", after := #[{ on := 10, ground := Go.Ground.guard }], guard := some (10, false) }) (v := ?_) rfl (by kernel_rfl) (by kernel_rfl) (by kernel_rfl) (fun _ _ _ h => h) (Or.inl ⟨by rfl, ?_⟩) hHeld ?_
  rotate_left 1
  · (intro w hSw; (try dsimp only at hSw); go_simp; (try with_reducible rfl))
  simp only [Act.put, List.setIfInBounds_toArray, List.set_cons_succ, List.set_cons_zero]
  refine wpAnyH_ready (rs := [14]) (by kernel_rfl) (by simp) ?_
  refine AllReadyH.cons (o := { dst := some 67, op := Go.Op.call { callee := Go.Callee.value (Go.Operand.func 20), args := #[Go.Operand.tmp 65, Go.Operand.tmp 66], argTypes := #[25, 25] }, type := 25, pos := "law.go:76", after := #[{ on := 12, ground := Go.Ground.data }, { on := 13, ground := Go.Ground.data }, { on := 10, ground := Go.Ground.chain }, { on := 10, ground := Go.Ground.guard }], guard := some (10, false) }) rfl (fun K hK => ?_) AllReadyH.nil
  go_simp
  refine (refSub rx ry e0.out (by omega)).mono ?_
  rintro e vr1 ⟨Ad, nd, cd, rfl, rd, hnd, hbr1⟩
  replace hp := hp.below hbr1
  replace hq := hq.below hbr1
  replace hf := hf.below hbr1
  replace rx := rx.below hbr1
  replace ry := ry.below hbr1
  replace rs := rs.below hbr1
  replace rm := rm.below hbr1
  replace hW := bstep0 hW hbr1
  clear hbr1
  refine hK.out _ _ (hf.cell) (fun hHeld => ?_)
  clear hK K
  refine wpAnyH_ready (rs := [15]) (by kernel_rfl) (by simp) ?_
  refine AllReadyH.cons (o := { dst := some 68, op := Go.Op.call { callee := Go.Callee.value (Go.Operand.func 12), args := #[Go.Operand.tmp 64, Go.Operand.tmp 67], argTypes := #[28, 25] }, type := 4, pos := "law.go:76", after := #[{ on := 11, ground := Go.Ground.data }, { on := 14, ground := Go.Ground.data }, { on := 14, ground := Go.Ground.chain }, { on := 10, ground := Go.Ground.guard }], guard := some (10, false) }) rfl (fun K hK => ?_) AllReadyH.nil
  go_simp
  refine (isYes hf.num rd (by omega)).mono ?_
  rintro e vr2 ⟨rfl, hbr2⟩
  replace hp := hp.below hbr2
  replace hq := hq.below hbr2
  replace hf := hf.below hbr2
  replace rx := rx.below hbr2
  replace ry := ry.below hbr2
  replace rs := rs.below hbr2
  replace rm := rm.below hbr2
  replace hW := bstep0 hW hbr2
  clear hbr2
  refine hK.out _ _ (hf.cell) (fun hHeld => ?_)
  clear hK K
  refine wpAnyH_take (i := 16) (oi := { dst := some 69, op := Go.Op.unOp Go.UnOp.not 4 (Go.Operand.tmp 68), type := 4, pos := "law.go:76", after := #[{ on := 15, ground := Go.Ground.data }, { on := 10, ground := Go.Ground.guard }], guard := some (10, false) }) (v := ?_) rfl (by kernel_rfl) (by kernel_rfl) (by kernel_rfl) (fun _ _ _ h => h) (Or.inl ⟨by rfl, ?_⟩) hHeld ?_
  rotate_left 1
  · (intro w hSw; (try dsimp only at hSw); go_simp; (try with_reducible rfl))
  simp only [Act.put, List.setIfInBounds_toArray, List.set_cons_succ, List.set_cons_zero]
  refine wpAnyH_take (i := 17) (oi := { dst := some 70, op := Go.Op.pick (Go.Operand.tmp 63) (Go.Operand.const (Go.Value.bool true)) (Go.Operand.tmp 69), type := 4, pos := "law.go:76", after := #[{ on := 10, ground := Go.Ground.data }, { on := 16, ground := Go.Ground.data }, { on := 7, ground := Go.Ground.guard }], guard := some (7, true) }) (v := ?_) rfl (by kernel_rfl) (by kernel_rfl) (by kernel_rfl) (fun _ _ _ h => h) (Or.inl ⟨by rfl, ?_⟩) hHeld ?_
  rotate_left 1
  · (intro w hSw; (try dsimp only at hSw); go_simp; (try with_reducible rfl))
  simp only [Act.put, List.setIfInBounds_toArray, List.set_cons_succ, List.set_cons_zero]
  refine wpAnyH_take (i := 18) (oi := { dst := some 71, op := Go.Op.pick (Go.Operand.tmp 60) (Go.Operand.tmp 70) (Go.Operand.const (Go.Value.bool false)), type := 4, pos := "law.go:76", after := #[{ on := 7, ground := Go.Ground.data }, { on := 17, ground := Go.Ground.data }, { on := 4, ground := Go.Ground.guard }], guard := some (4, false) }) (v := ?_) rfl (by kernel_rfl) (by kernel_rfl) (by kernel_rfl) (fun _ _ _ h => h) (Or.inl ⟨by rfl, ?_⟩) hHeld ?_
  rotate_left 1
  · (intro w hSw; (try dsimp only at hSw); go_simp; (try with_reducible rfl))
  simp only [Act.put, List.setIfInBounds_toArray, List.set_cons_succ, List.set_cons_zero]
  refine wpAnyH_take (i := 19) (oi := { dst := some 72, op := Go.Op.pick (Go.Operand.tmp 57) (Go.Operand.const (Go.Value.bool true)) (Go.Operand.tmp 71), type := 4, pos := "law.go:76", after := #[{ on := 4, ground := Go.Ground.data }, { on := 18, ground := Go.Ground.data }], guard := none }) (v := ?_) rfl (by kernel_rfl) (by kernel_rfl) (by kernel_rfl) (fun _ _ _ h => h) (Or.inl ⟨by rfl, ?_⟩) hHeld ?_
  rotate_left 1
  · (intro w hSw; (try dsimp only at hSw); go_simp; (try with_reducible rfl))
  simp only [Act.put, List.setIfInBounds_toArray, List.set_cons_succ, List.set_cons_zero]
  refine wpAnyH_take (i := 20) (oi := { dst := some 73, op := Go.Op.move (Go.Operand.tmp 72), type := 4, pos := "law.go:76", after := #[{ on := 19, ground := Go.Ground.data }, { on := 15, ground := Go.Ground.chain }], guard := none }) (v := ?_) rfl (by kernel_rfl) (by kernel_rfl) (by kernel_rfl) (fun _ _ _ h => h) (Or.inl ⟨by rfl, ?_⟩) hHeld ?_
  rotate_left 1
  · (intro w hSw; (try dsimp only at hSw); go_simp; (try with_reducible rfl))
  simp only [Act.put, List.setIfInBounds_toArray, List.set_cons_succ, List.set_cons_zero]
  refine wpAnyH_take (i := 21) (oi := { dst := some 74, op := Go.Op.move (Go.Operand.tmp 15), type := 4, pos := "law.go:76", after := #[{ on := 20, ground := Go.Ground.guard }], guard := some (20, false) }) (v := ?_) rfl (by kernel_rfl) (by kernel_rfl) (by kernel_rfl) (fun _ _ _ h => h) (Or.inl ⟨by rfl, ?_⟩) hHeld ?_
  rotate_left 1
  · (intro w hSw; (try dsimp only at hSw); go_simp; (try with_reducible rfl))
  simp only [Act.put, List.setIfInBounds_toArray, List.set_cons_succ, List.set_cons_zero]
  refine wpAnyH_take (i := 22) (oi := { dst := some 75, op := Go.Op.move (Go.Operand.tmp 74), type := 4, pos := "law.go:76", after := #[{ on := 21, ground := Go.Ground.data }, { on := 20, ground := Go.Ground.chain }, { on := 20, ground := Go.Ground.guard }], guard := some (20, false) }) (v := ?_) rfl (by kernel_rfl) (by kernel_rfl) (by kernel_rfl) (fun _ _ _ h => h) (Or.inl ⟨by rfl, ?_⟩) hHeld ?_
  rotate_left 1
  · (intro w hSw; (try dsimp only at hSw); go_simp; (try with_reducible rfl))
  simp only [Act.put, List.setIfInBounds_toArray, List.set_cons_succ, List.set_cons_zero]
  refine wpAnyH_take (i := 23) (oi := { dst := some 76, op := Go.Op.load 28 (Go.Operand.tmp 13), type := 28, pos := "law.go:76", after := #[{ on := 22, ground := Go.Ground.guard }], guard := some (22, true) }) (v := undef) rfl (by kernel_rfl) (by kernel_rfl) (by kernel_rfl) (fun _ _ _ h => h) (Or.inr ⟨by rfl, rfl⟩) hHeld ?_
  simp only [Act.put, List.setIfInBounds_toArray, List.set_cons_succ, List.set_cons_zero]
  refine wpAnyH_take (i := 24) (oi := { dst := some 77, op := Go.Op.call { callee := Go.Callee.value (Go.Operand.func 12), args := #[Go.Operand.tmp 76, Go.Operand.const (Go.Value.slice none 0 0)], argTypes := #[28, 25] }, type := 4, pos := "law.go:76", after := #[{ on := 23, ground := Go.Ground.data }, { on := 22, ground := Go.Ground.chain }, { on := 22, ground := Go.Ground.guard }], guard := some (22, true) }) (v := undef) rfl (by kernel_rfl) (by kernel_rfl) (by kernel_rfl) (fun _ _ _ h => h) (Or.inr ⟨by rfl, rfl⟩) hHeld ?_
  simp only [Act.put, List.setIfInBounds_toArray, List.set_cons_succ, List.set_cons_zero]
  refine wpAnyH_take (i := 25) (oi := { dst := some 78, op := Go.Op.unOp Go.UnOp.not 4 (Go.Operand.tmp 77), type := 4, pos := "law.go:76", after := #[{ on := 24, ground := Go.Ground.data }, { on := 22, ground := Go.Ground.guard }], guard := some (22, true) }) (v := undef) rfl (by kernel_rfl) (by kernel_rfl) (by kernel_rfl) (fun _ _ _ h => h) (Or.inr ⟨by rfl, rfl⟩) hHeld ?_
  simp only [Act.put, List.setIfInBounds_toArray, List.set_cons_succ, List.set_cons_zero]
  refine wpAnyH_take (i := 26) (oi := { dst := some 79, op := Go.Op.pick (Go.Operand.tmp 75) (Go.Operand.tmp 78) (Go.Operand.const (Go.Value.bool false)), type := 4, pos := "law.go:76", after := #[{ on := 22, ground := Go.Ground.data }, { on := 25, ground := Go.Ground.data }, { on := 20, ground := Go.Ground.guard }], guard := some (20, false) }) (v := ?_) rfl (by kernel_rfl) (by kernel_rfl) (by kernel_rfl) (fun _ _ _ h => h) (Or.inl ⟨by rfl, ?_⟩) hHeld ?_
  rotate_left 1
  · (intro w hSw; (try dsimp only at hSw); go_simp; (try with_reducible rfl))
  simp only [Act.put, List.setIfInBounds_toArray, List.set_cons_succ, List.set_cons_zero]
  refine wpAnyH_take (i := 27) (oi := { dst := some 80, op := Go.Op.pick (Go.Operand.tmp 73) (Go.Operand.const (Go.Value.bool true)) (Go.Operand.tmp 79), type := 4, pos := "law.go:76", after := #[{ on := 20, ground := Go.Ground.data }, { on := 26, ground := Go.Ground.data }], guard := none }) (v := ?_) rfl (by kernel_rfl) (by kernel_rfl) (by kernel_rfl) (fun _ _ _ h => h) (Or.inl ⟨by rfl, ?_⟩) hHeld ?_
  rotate_left 1
  · (intro w hSw; (try dsimp only at hSw); go_simp; (try with_reducible rfl))
  simp only [Act.put, List.setIfInBounds_toArray, List.set_cons_succ, List.set_cons_zero]
  refine wpAnyH_done (by kernel_rfl) ?_ _
  refine NoPanic.normal ?_
  skip
  have kp := hp.cell
  have tp := hp.lt
  have kq := hq.cell
  have tq := hq.lt
  have kf := hf.cell
  have tf := hf.lt
  go_wp2_with fail
  clear kp tp kq tq kf tf
  refine (addNo c0 hp.num hq.num (by omega) (by omega) e2.out).mono ?_
  rintro e v13 ⟨Ag, ng, cg, rfl, hng, hnn, hb13⟩
  replace hp := hp.below hb13
  replace hq := hq.below hb13
  replace hf := hf.below hb13
  replace rx := rx.below hb13
  replace ry := ry.below hb13
  replace rs := rs.below hb13
  replace rm := rm.below hb13
  replace hW := bstep0 hW hb13
  clear hb13
  have hng1 : ng ≤ 1000 := by omega
  clear hnn
  have kp := hp.cell
  have tp := hp.lt
  have kq := hq.cell
  have tq := hq.lt
  have kf := hf.cell
  have tf := hf.lt
  go_wp2_with fail
  clear kp tp kq tq kf tf
  have hnb := (Below.refl v13.heap.size v13).alloc (Nat.le_refl _) (.cells #[.slice Ag ng cg] 28)
  have hg := Bk.new hng
  replace hp := hp.below hnb
  replace hq := hq.below hnb
  replace hf := hf.below hnb
  replace rx := rx.below hnb
  replace ry := ry.below hnb
  replace rs := rs.below hnb
  replace rm := rm.below hnb
  replace hW := bstep0 hW hnb
  clear hnb
  clear hng
  generalize v13.alloc (.cells #[.slice Ag ng cg] 28) = Vg at *
  generalize v13.heap.size = gg at *
  refine (mulNo c0 hp.num hq.num (by omega) (by omega) e3.out).mono ?_
  rintro e v14 ⟨Ah, nh, ch, rfl, hnh, hnn, hb14⟩
  replace hp := hp.below hb14
  replace hq := hq.below hb14
  replace hf := hf.below hb14
  replace hg := hg.below hb14
  replace rx := rx.below hb14
  replace ry := ry.below hb14
  replace rs := rs.below hb14
  replace rm := rm.below hb14
  replace hW := bstep0 hW hb14
  clear hb14
  have hnh1 : nh ≤ 1000 := by omega
  clear hnn
  have kp := hp.cell
  have tp := hp.lt
  have kq := hq.cell
  have tq := hq.lt
  have kf := hf.cell
  have tf := hf.lt
  have kg := hg.cell
  have tg := hg.lt
  go_wp2_with fail
  clear kp tp kq tq kf tf kg tg
  have hnb := (Below.refl v14.heap.size v14).alloc (Nat.le_refl _) (.cells #[.slice Ah nh ch] 28)
  have hh := Bk.new hnh
  replace hp := hp.below hnb
  replace hq := hq.below hnb
  replace hf := hf.below hnb
  replace hg := hg.below hnb
  replace rx := rx.below hnb
  replace ry := ry.below hnb
  replace rs := rs.below hnb
  replace rm := rm.below hnb
  replace hW := bstep0 hW hnb
  clear hnb
  clear hnh
  generalize v14.alloc (.cells #[.slice Ah nh ch] 28) = Vh at *
  generalize v14.heap.size = gh at *
  refine (refFits_no c0 rs (by omega) e2.out).mono ?_
  rintro e v15 ⟨rfl, hb15⟩
  replace hp := hp.below hb15
  replace hq := hq.below hb15
  replace hf := hf.below hb15
  replace hg := hg.below hb15
  replace hh := hh.below hb15
  replace rx := rx.below hb15
  replace ry := ry.below hb15
  replace rs := rs.below hb15
  replace rm := rm.below hb15
  replace hW := bstep0 hW hb15
  clear hb15
  have kp := hp.cell
  have tp := hp.lt
  have kq := hq.cell
  have tq := hq.lt
  have kf := hf.cell
  have tf := hf.lt
  have kg := hg.cell
  have tg := hg.lt
  have kh := hh.cell
  have th := hh.lt
  go_wp2_with fail
  clear kp tp kq tq kf tf kg tg kh th
  refine (refFits_no c0 rm (by omega) e3.out).mono ?_
  rintro e v16 ⟨rfl, hb16⟩
  replace hp := hp.below hb16
  replace hq := hq.below hb16
  replace hf := hf.below hb16
  replace hg := hg.below hb16
  replace hh := hh.below hb16
  replace rx := rx.below hb16
  replace ry := ry.below hb16
  replace rs := rs.below hb16
  replace rm := rm.below hb16
  replace hW := bstep0 hW hb16
  clear hb16
  have kp := hp.cell
  have tp := hp.lt
  have kq := hq.cell
  have tq := hq.lt
  have kf := hf.cell
  have tf := hf.lt
  have kg := hg.cell
  have tg := hg.lt
  have kh := hh.cell
  have th := hh.lt
  go_wp2_with fail
  clear kp tp kq tq kf tf kg tg kh th
  refine (isYes hg.num (RNum.zero _ 0) (by omega)).mono ?_
  rintro e v17 ⟨rfl, hb17⟩
  replace hp := hp.below hb17
  replace hq := hq.below hb17
  replace hf := hf.below hb17
  replace hg := hg.below hb17
  replace hh := hh.below hb17
  replace rx := rx.below hb17
  replace ry := ry.below hb17
  replace rs := rs.below hb17
  replace rm := rm.below hb17
  replace hW := bstep0 hW hb17
  clear hb17
  have kp := hp.cell
  have tp := hp.lt
  have kq := hq.cell
  have tq := hq.lt
  have kf := hf.cell
  have tf := hf.lt
  have kg := hg.cell
  have tg := hg.lt
  have kh := hh.cell
  have th := hh.lt
  go_wp2_with fail
  clear kp tp kq tq kf tf kg tg kh th
  refine (isYes hh.num (RNum.zero _ 0) (by omega)).mono ?_
  rintro e v18 ⟨rfl, hb18⟩
  replace hp := hp.below hb18
  replace hq := hq.below hb18
  replace hf := hf.below hb18
  replace hg := hg.below hb18
  replace hh := hh.below hb18
  replace rx := rx.below hb18
  replace ry := ry.below hb18
  replace rs := rs.below hb18
  replace rm := rm.below hb18
  replace hW := bstep0 hW hb18
  clear hb18
  have kp := hp.cell
  have tp := hp.lt
  have kq := hq.cell
  have tq := hq.lt
  have kf := hf.cell
  have tf := hf.lt
  have kg := hg.cell
  have tg := hg.lt
  have kh := hh.cell
  have th := hh.lt
  go_wp2_with fail
  clear kp tp kq tq kf tf kg tg kh th
  refine (natAdd hp.num hq.num (by omega) (by omega)).mono ?_
  rintro e v19 ⟨Ai, ni, ci, rfl, hni, hnn, hb19⟩
  replace hp := hp.below hb19
  replace hq := hq.below hb19
  replace hf := hf.below hb19
  replace hg := hg.below hb19
  replace hh := hh.below hb19
  replace rx := rx.below hb19
  replace ry := ry.below hb19
  replace rs := rs.below hb19
  replace rm := rm.below hb19
  replace hW := bstep0 hW hb19
  clear hb19
  have kp := hp.cell
  have tp := hp.lt
  have kq := hq.cell
  have tq := hq.lt
  have kf := hf.cell
  have tf := hf.lt
  have kg := hg.cell
  have tg := hg.lt
  have kh := hh.cell
  have th := hh.lt
  go_wp2_with fail
  clear kp tp kq tq kf tf kg tg kh th
  refine (isYes hni rs (by omega)).mono ?_
  rintro e v20 ⟨rfl, hb20⟩
  replace hp := hp.below hb20
  replace hq := hq.below hb20
  replace hf := hf.below hb20
  replace hg := hg.below hb20
  replace hh := hh.below hb20
  replace rx := rx.below hb20
  replace ry := ry.below hb20
  replace rs := rs.below hb20
  replace rm := rm.below hb20
  replace hW := bstep0 hW hb20
  clear hb20
  clear hni hnn
  have kp := hp.cell
  have tp := hp.lt
  have kq := hq.cell
  have tq := hq.lt
  have kf := hf.cell
  have tf := hf.lt
  have kg := hg.cell
  have tg := hg.lt
  have kh := hh.cell
  have th := hh.lt
  go_wp2_with fail
  clear kp tp kq tq kf tf kg tg kh th
  refine (natMul hp.num hq.num (by omega) (by omega)).mono ?_
  rintro e v21 ⟨Ai, ni, ci, rfl, hni, hnn, hb21⟩
  replace hp := hp.below hb21
  replace hq := hq.below hb21
  replace hf := hf.below hb21
  replace hg := hg.below hb21
  replace hh := hh.below hb21
  replace rx := rx.below hb21
  replace ry := ry.below hb21
  replace rs := rs.below hb21
  replace rm := rm.below hb21
  replace hW := bstep0 hW hb21
  clear hb21
  have kp := hp.cell
  have tp := hp.lt
  have kq := hq.cell
  have tq := hq.lt
  have kf := hf.cell
  have tf := hf.lt
  have kg := hg.cell
  have tg := hg.lt
  have kh := hh.cell
  have th := hh.lt
  go_wp2_with fail
  clear kp tp kq tq kf tf kg tg kh th
  refine (isYes hni rm (by omega)).mono ?_
  rintro e v22 ⟨rfl, hb22⟩
  replace hp := hp.below hb22
  replace hq := hq.below hb22
  replace hf := hf.below hb22
  replace hg := hg.below hb22
  replace hh := hh.below hb22
  replace rx := rx.below hb22
  replace ry := ry.below hb22
  replace rs := rs.below hb22
  replace rm := rm.below hb22
  replace hW := bstep0 hW hb22
  clear hb22
  clear hni hnn
  have kp := hp.cell
  have tp := hp.lt
  have kq := hq.cell
  have tq := hq.lt
  have kf := hf.cell
  have tf := hf.lt
  have kg := hg.cell
  have tg := hg.lt
  have kh := hh.cell
  have th := hh.lt
  go_wp2_with fail
  clear kp tp kq tq kf tf kg tg kh th
  refine (natSum _ 3 3 (mid X Y) _ (nrow_mid hp hq (by omega) (by omega) rfl) (by omega) (small_mid (by omega) (by omega) rfl)).mono ?_
  rintro e v23 ⟨Ai, ni, ci, rfl, hni, hnn, hb23⟩
  have hb23 := ((Below.refl _ _).alloc (Nat.le_refl _) _).trans (hb23.mono (Nat.le_of_lt (by simp)))
  replace hp := hp.below hb23
  replace hq := hq.below hb23
  replace hf := hf.below hb23
  replace hg := hg.below hb23
  replace hh := hh.below hb23
  replace rx := rx.below hb23
  replace ry := ry.below hb23
  replace rs := rs.below hb23
  replace rm := rm.below hb23
  replace hW := bstep0 hW hb23
  clear hb23
  rw [e4.out] at hni
  have kp := hp.cell
  have tp := hp.lt
  have kq := hq.cell
  have tq := hq.lt
  have kf := hf.cell
  have tf := hf.lt
  have kg := hg.cell
  have tg := hg.lt
  have kh := hh.cell
  have th := hh.lt
  go_wp2_with fail
  clear kp tp kq tq kf tf kg tg kh th
  refine (refAdd rs rx (by omega) (by omega)).mono ?_
  rintro e v24 ⟨Aj, nj, cj, rfl, rj, hnj, hb24⟩
  replace hp := hp.below hb24
  replace hq := hq.below hb24
  replace hf := hf.below hb24
  replace hg := hg.below hb24
  replace hh := hh.below hb24
  replace rx := rx.below hb24
  replace ry := ry.below hb24
  replace rs := rs.below hb24
  replace rm := rm.below hb24
  replace hni := hni.below hb24
  replace hW := bstep0 hW hb24
  clear hb24
  have kp := hp.cell
  have tp := hp.lt
  have kq := hq.cell
  have tq := hq.lt
  have kf := hf.cell
  have tf := hf.lt
  have kg := hg.cell
  have tg := hg.lt
  have kh := hh.cell
  have th := hh.lt
  go_wp2_with fail
  clear kp tp kq tq kf tf kg tg kh th
  refine (isYes hni rj (by omega)).mono ?_
  rintro e v25 ⟨rfl, hb25⟩
  replace hp := hp.below hb25
  replace hq := hq.below hb25
  replace hf := hf.below hb25
  replace hg := hg.below hb25
  replace hh := hh.below hb25
  replace rx := rx.below hb25
  replace ry := ry.below hb25
  replace rs := rs.below hb25
  replace rm := rm.below hb25
  replace hW := bstep0 hW hb25
  clear hb25
  clear hni hnn rj hnj
  have kp := hp.cell
  have tp := hp.lt
  have kq := hq.cell
  have tq := hq.lt
  have kf := hf.cell
  have tf := hf.lt
  have kg := hg.cell
  have tg := hg.lt
  have kh := hh.cell
  have th := hh.lt
  go_wp2_with fail
  clear kp tp kq tq kf tf kg tg kh th
  refine (natSum none 0 0 (mid 0 0) _ (fun i hi => absurd hi (by omega)) (by omega) (fun i hi => absurd hi (by omega))).mono ?_
  rintro e v26 ⟨Ai, ni, ci, rfl, hni, hnn, hb26⟩
  replace hp := hp.below hb26
  replace hq := hq.below hb26
  replace hf := hf.below hb26
  replace hg := hg.below hb26
  replace hh := hh.below hb26
  replace rx := rx.below hb26
  replace ry := ry.below hb26
  replace rs := rs.below hb26
  replace rm := rm.below hb26
  replace hW := bstep0 hW hb26
  clear hb26
  have kp := hp.cell
  have tp := hp.lt
  have kq := hq.cell
  have tq := hq.lt
  have kf := hf.cell
  have tf := hf.lt
  have kg := hg.cell
  have tg := hg.lt
  have kh := hh.cell
  have th := hh.lt
  go_wp2_with fail
  clear kp tp kq tq kf tf kg tg kh th
  refine (isYes hni (RNum.zero _ 0) (by omega)).mono ?_
  rintro e v27 ⟨rfl, hb27⟩
  replace hp := hp.below hb27
  replace hq := hq.below hb27
  replace hf := hf.below hb27
  replace hg := hg.below hb27
  replace hh := hh.below hb27
  replace rx := rx.below hb27
  replace ry := ry.below hb27
  replace rs := rs.below hb27
  replace rm := rm.below hb27
  replace hW := bstep0 hW hb27
  clear hb27
  clear hni hnn
  have kp := hp.cell
  have tp := hp.lt
  have kq := hq.cell
  have tq := hq.lt
  have kf := hf.cell
  have tf := hf.lt
  have kg := hg.cell
  have tg := hg.lt
  have kh := hh.cell
  have th := hh.lt
  go_wp2_with fail
  clear kp tp kq tq kf tf kg tg kh th
  rcases Nat.lt_or_ge (capN c0) n1 with hk | hk
  · have hfx := Lib.hid (fun h => Nat.not_le.2 hk ((hp.num.fit c0).2 h))
    refine (capFits_no c0 A1 n1 c1 hk _).mono ?_
    rintro e v28 ⟨rfl, hb28⟩
    replace hp := hp.below hb28
    replace hq := hq.below hb28
    replace hf := hf.below hb28
    replace hg := hg.below hb28
    replace hh := hh.below hb28
    replace rx := rx.below hb28
    replace ry := ry.below hb28
    replace rs := rs.below hb28
    replace rm := rm.below hb28
    replace hW := bstep0 hW hb28
    clear hb28
    clear hk
    have kp := hp.cell
    have tp := hp.lt
    have kq := hq.cell
    have tq := hq.lt
    have kf := hf.cell
    have tf := hf.lt
    have kg := hg.cell
    have tg := hg.lt
    have kh := hh.cell
    have th := hh.lt
    go_wp2_with fail
    clear kp tp kq tq kf tf kg tg kh th
    refine (refFits_no c0 rx (by omega) hfx.out).mono ?_
    rintro e v29 ⟨rfl, hb29⟩
    replace hp := hp.below hb29
    replace hq := hq.below hb29
    replace hf := hf.below hb29
    replace hg := hg.below hb29
    replace hh := hh.below hb29
    replace rx := rx.below hb29
    replace ry := ry.below hb29
    replace rs := rs.below hb29
    replace rm := rm.below hb29
    replace hW := bstep0 hW hb29
    clear hb29
    have kp := hp.cell
    have tp := hp.lt
    have kq := hq.cell
    have tq := hq.lt
    have kf := hf.cell
    have tf := hf.lt
    have kg := hg.cell
    have tg := hg.lt
    have kh := hh.cell
    have th := hh.lt
    go_wp2_with fail
    clear kp tp kq tq kf tf kg tg kh th
    refine (isYes hp.num rx (by omega)).mono ?_
    rintro e v30 ⟨rfl, hb30⟩
    replace hp := hp.below hb30
    replace hq := hq.below hb30
    replace hf := hf.below hb30
    replace hg := hg.below hb30
    replace hh := hh.below hb30
    replace rx := rx.below hb30
    replace ry := ry.below hb30
    replace rs := rs.below hb30
    replace rm := rm.below hb30
    replace hW := bstep0 hW hb30
    clear hb30
    have kp := hp.cell
    have tp := hp.lt
    have kq := hq.cell
    have tq := hq.lt
    have kf := hf.cell
    have tf := hf.lt
    have kg := hg.cell
    have tg := hg.lt
    have kh := hh.cell
    have th := hh.lt
    go_wp2_with fail
    clear kp tp kq tq kf tf kg tg kh th
    refine (isYes hq.num ry (by omega)).mono ?_
    rintro e v31 ⟨rfl, hb31⟩
    replace hp := hp.below hb31
    replace hq := hq.below hb31
    replace hf := hf.below hb31
    replace hg := hg.below hb31
    replace hh := hh.below hb31
    replace rx := rx.below hb31
    replace ry := ry.below hb31
    replace rs := rs.below hb31
    replace rm := rm.below hb31
    replace hW := bstep0 hW hb31
    clear hb31
    have kp := hp.cell
    have tp := hp.lt
    have kq := hq.cell
    have tq := hq.lt
    have kf := hf.cell
    have tf := hf.lt
    have kg := hg.cell
    have tg := hg.lt
    have kh := hh.cell
    have th := hh.lt
    go_wp2_with fail
    clear kp tp kq tq kf tf kg tg kh th
    refine (works_any _).mono ?_
    rintro e v32 ⟨rfl, hb32⟩
    replace hp := hp.below hb32
    replace hq := hq.below hb32
    replace hf := hf.below hb32
    replace hg := hg.below hb32
    replace hh := hh.below hb32
    replace rx := rx.below hb32
    replace ry := ry.below hb32
    replace rs := rs.below hb32
    replace rm := rm.below hb32
    replace hW := bstep0 hW hb32
    clear hb32
    have kp := hp.cell
    have tp := hp.lt
    have kq := hq.cell
    have tq := hq.lt
    have kf := hf.cell
    have tf := hf.lt
    have kg := hg.cell
    have tg := hg.lt
    have kh := hh.cell
    have th := hh.lt
    go_wp2_with fail
    clear kp tp kq tq kf tf kg tg kh th
    go_ret
    exact ⟨rfl, hW⟩
  · have hfx := Lib.hid ((hp.num.fit c0).1 hk)
    refine (capFits_yes c0 A1 n1 c1 hk _).mono ?_
    rintro e v28 ⟨rfl, hb28⟩
    replace hp := hp.below hb28
    replace hq := hq.below hb28
    replace hf := hf.below hb28
    replace hg := hg.below hb28
    replace hh := hh.below hb28
    replace rx := rx.below hb28
    replace ry := ry.below hb28
    replace rs := rs.below hb28
    replace rm := rm.below hb28
    replace hW := bstep0 hW hb28
    clear hb28
    clear hk
    have kp := hp.cell
    have tp := hp.lt
    have kq := hq.cell
    have tq := hq.lt
    have kf := hf.cell
    have tf := hf.lt
    have kg := hg.cell
    have tg := hg.lt
    have kh := hh.cell
    have th := hh.lt
    go_wp2_with fail
    clear kp tp kq tq kf tf kg tg kh th
    refine (refFits_yes c0 rx (by omega) hfx.out).mono ?_
    rintro e v29 ⟨rfl, hb29⟩
    replace hp := hp.below hb29
    replace hq := hq.below hb29
    replace hf := hf.below hb29
    replace hg := hg.below hb29
    replace hh := hh.below hb29
    replace rx := rx.below hb29
    replace ry := ry.below hb29
    replace rs := rs.below hb29
    replace rm := rm.below hb29
    replace hW := bstep0 hW hb29
    clear hb29
    have kp := hp.cell
    have tp := hp.lt
    have kq := hq.cell
    have tq := hq.lt
    have kf := hf.cell
    have tf := hf.lt
    have kg := hg.cell
    have tg := hg.lt
    have kh := hh.cell
    have th := hh.lt
    go_wp2_with fail
    clear kp tp kq tq kf tf kg tg kh th
    refine (isYes hp.num rx (by omega)).mono ?_
    rintro e v30 ⟨rfl, hb30⟩
    replace hp := hp.below hb30
    replace hq := hq.below hb30
    replace hf := hf.below hb30
    replace hg := hg.below hb30
    replace hh := hh.below hb30
    replace rx := rx.below hb30
    replace ry := ry.below hb30
    replace rs := rs.below hb30
    replace rm := rm.below hb30
    replace hW := bstep0 hW hb30
    clear hb30
    have kp := hp.cell
    have tp := hp.lt
    have kq := hq.cell
    have tq := hq.lt
    have kf := hf.cell
    have tf := hf.lt
    have kg := hg.cell
    have tg := hg.lt
    have kh := hh.cell
    have th := hh.lt
    go_wp2_with fail
    clear kp tp kq tq kf tf kg tg kh th
    refine (isYes hq.num ry (by omega)).mono ?_
    rintro e v31 ⟨rfl, hb31⟩
    replace hp := hp.below hb31
    replace hq := hq.below hb31
    replace hf := hf.below hb31
    replace hg := hg.below hb31
    replace hh := hh.below hb31
    replace rx := rx.below hb31
    replace ry := ry.below hb31
    replace rs := rs.below hb31
    replace rm := rm.below hb31
    replace hW := bstep0 hW hb31
    clear hb31
    have kp := hp.cell
    have tp := hp.lt
    have kq := hq.cell
    have tq := hq.lt
    have kf := hf.cell
    have tf := hf.lt
    have kg := hg.cell
    have tg := hg.lt
    have kh := hh.cell
    have th := hh.lt
    go_wp2_with fail
    clear kp tp kq tq kf tf kg tg kh th
    refine (works_any _).mono ?_
    rintro e v32 ⟨rfl, hb32⟩
    replace hp := hp.below hb32
    replace hq := hq.below hb32
    replace hf := hf.below hb32
    replace hg := hg.below hb32
    replace hh := hh.below hb32
    replace rx := rx.below hb32
    replace ry := ry.below hb32
    replace rs := rs.below hb32
    replace rm := rm.below hb32
    replace hW := bstep0 hW hb32
    clear hb32
    have kp := hp.cell
    have tp := hp.lt
    have kq := hq.cell
    have tq := hq.lt
    have kf := hf.cell
    have tf := hf.lt
    have kg := hg.cell
    have tg := hg.lt
    have kh := hh.cell
    have th := hh.lt
    go_wp2_with fail
    clear kp tp kq tq kf tf kg tg kh th
    go_ret
    exact ⟨rfl, hW⟩

end Go.Proofs.Ytamknndngjoncaa
