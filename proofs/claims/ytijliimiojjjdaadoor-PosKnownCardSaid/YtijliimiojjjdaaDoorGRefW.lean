/- The reference's First. A row of faults that grows. PosTells, where it asks nothing. PosTells: where it asks. PosTells: where it asks, the walk. -/
import Derived.Test.YtijliimiojjjdaaDoorGRefU
namespace Go.Proofs.YtijliimiojjjdaaDoor
section
open Go.RowKit

theorem cstep1 {W W' : World} (hb : Below W.heap.size W W') {p : Addr} {u : Value} (h : W.cell? p = some u) : W'.cell? p = some u :=
  (hb.cell (p := p) (World.block_lt_of_cell? W p h)).trans h
theorem cstep6 {W W' : World} (hb : Below W.heap.size W W') {p0 p1 p2 p3 p4 p5 : Addr} {u0 u1 u2 u3 u4 u5 : Value}
    (h : (W.cell? p0 = some u0 ∧ W.cell? p1 = some u1 ∧ W.cell? p2 = some u2) ∧ W.cell? p3 = some u3 ∧ W.cell? p4 = some u4 ∧ W.cell? p5 = some u5) :
    (W'.cell? p0 = some u0 ∧ W'.cell? p1 = some u1 ∧ W'.cell? p2 = some u2) ∧ W'.cell? p3 = some u3 ∧ W'.cell? p4 = some u4 ∧ W'.cell? p5 = some u5 :=
  ⟨⟨cstep1 hb h.1.1, cstep1 hb h.1.2.1, cstep1 hb h.1.2.2⟩, cstep1 hb h.2.1, cstep1 hb h.2.2.1, cstep1 hb h.2.2.2⟩
theorem stored {w W : World} {a0 a1 a2 b0 b1 b2 l c e : Int} (h : FB3 W w.heap.size a0 a1 a2 ∧ FB3 W (w.heap.size + 1) b0 b1 b2 ∧ Below w.heap.size w W) :
    FB3 (((W.setCell ⟨w.heap.size + 1, 0, none⟩ (.int .i64 l)).setCell ⟨w.heap.size + 1, 1, none⟩ (.int .i64 c)).setCell ⟨w.heap.size + 1, 2, none⟩ (.int .i64 e)) w.heap.size a0 a1 a2 ∧
    FB3 (((W.setCell ⟨w.heap.size + 1, 0, none⟩ (.int .i64 l)).setCell ⟨w.heap.size + 1, 1, none⟩ (.int .i64 c)).setCell ⟨w.heap.size + 1, 2, none⟩ (.int .i64 e)) (w.heap.size + 1) l c e ∧
    Below w.heap.size w (((W.setCell ⟨w.heap.size + 1, 0, none⟩ (.int .i64 l)).setCell ⟨w.heap.size + 1, 1, none⟩ (.int .i64 c)).setCell ⟨w.heap.size + 1, 2, none⟩ (.int .i64 e)) := by
  have q := far3 (x := .int .i64 l) (y := .int .i64 c) (z := .int .i64 e) (g' := w.heap.size + 1) ⟨h.1.c0, h.1.c1, h.1.c2⟩ (by omega)
  exact ⟨⟨q.1, q.2.1, q.2.2, by simpa using h.1.f0, by simpa using h.1.f1, by simpa using h.1.f2⟩, h.2.1.all l c e, ((h.2.2.setCell (Nat.le_succ _) _).setCell (Nat.le_succ _) _).setCell (Nat.le_succ _) _⟩

set_option maxHeartbeats 2000000 in
theorem refFirst (A : Option Addr) (n c0 : Nat) (r : List (Int × Int × Int)) (w : World) (hr : RowF w A n r) (hn : n ≤ 1000) :
    Calls Tryd.prog 20 #[.slice A n c0] w fun e w' => e = .returned (.tuple #[.agg #[.int .i64 (firstV r).1, .int .i64 (firstV r).2.1, .int .i64 (firstV r).2.2.1], .bool (firstV r).2.2.2]) ∧ Below w.heap.size w w' := by
  go_enter Tryd.func20, Tryd.ntmps20
  go_wp2_with fail
  have hst0 : Hid (FB3 ((w.alloc (.cells #[.int .i64 0, .int .i64 0, .int .i64 0] 42)).alloc (.cells #[.int .i64 0, .int .i64 0, .int .i64 0] 42)) w.heap.size 0 0 0 ∧ FB3 ((w.alloc (.cells #[.int .i64 0, .int .i64 0, .int .i64 0] 42)).alloc (.cells #[.int .i64 0, .int .i64 0, .int .i64 0] 42)) (w.heap.size + 1) 0 0 0 ∧ Below w.heap.size w ((w.alloc (.cells #[.int .i64 0, .int .i64 0, .int .i64 0] 42)).alloc (.cells #[.int .i64 0, .int .i64 0, .int .i64 0] 42))) :=
    ⟨(FB3.new w 0 0 0 _).step (below_new_v _ _), by have := FB3.new (w.alloc (.cells #[.int .i64 0, .int .i64 0, .int .i64 0] 42)) 0 0 0 42; simpa using this, (below_new_v w _).alloc (by simp) _⟩
  go_loopw [5, 6] (fun f v W => ∃ i : Nat, i ≤ n ∧ v = .int .i64 i ∧ f = .bool (firstV (r.take i)).2.2.2 ∧ Hid (FB3 W w.heap.size 0 0 0 ∧ FB3 W (w.heap.size + 1) (firstV (r.take i)).1 (firstV (r.take i)).2.1 (firstV (r.take i)).2.2.1 ∧ Below w.heap.size w W)) (fun _ v _ => n - (intOf v).toNat)
  case atStart => exact ⟨0, by omega, rfl, rfl, hst0⟩
  case round =>
    obtain ⟨i, hi, rfl, rfl, hst⟩ := hrel
    clear hst0
    by_cases hlt : i < n
    · have hrW : RowF wr.drew A n r := (RowF.below2 hr hst.out.2.2.drew)
      obtain ⟨ad, l, c, e, rfl, hri, h0, h1, h2⟩ := hrW.at_ hlt
      have hlt' : (i : Int) < n := by omega
      have hnext := Lib.hid (firstV_next r i (l, c, e) hri)
      have p1 := hst.out.2.1.step (Below.refl wr.heap.size wr).drew
      have d0 := p1.c0
      have d1 := p1.c1
      have d2 := p1.c2
      have d3 := p1.f0
      have d4 := p1.f1
      have d5 := p1.f2
      have h1' : wr.drew.cell? ((ad.add (i * 3)).add 1) = some (.int .i64 c) := by rw [add_of_add]; exact h1
      have h2' : wr.drew.cell? ((ad.add (i * 3)).add 2) = some (.int .i64 e) := by rw [add_of_add]; exact h2
      have h1'' : wr.drew.cell? ⟨(ad.add (i * 3)).block, (ad.add (i * 3)).off + 1, none⟩ = some (.int .i64 c) := h1'
      have h2'' : wr.drew.cell? ⟨(ad.add (i * 3)).block, (ad.add (i * 3)).off + 2, none⟩ = some (.int .i64 e) := h2'
      clear hrW hri
      generalize firstV (r.take i) = v at *
      obtain ⟨v0, v1, v2, vb⟩ := v
      simp only at d0 d1 d2
      have hst1 := Lib.hid (And.intro (hst.out.1.step (Below.refl wr.heap.size wr).drew) (And.intro (hst.out.2.1.step (Below.refl wr.heap.size wr).drew) hst.out.2.2.drew))
      have hS1 := And.intro (And.intro h0 (And.intro h1'' h2'')) (And.intro d0 (And.intro d1 d2))
      clear hst p1 d0 d1 d2 d3 d4 d5 h0 h1 h2 h1' h2' h1'' h2''
      by_cases he : e = 0
      · have HS : Hid (stepF (v0, v1, v2, vb) (l, c, e) = (v0, v1, v2, vb)) := by show stepF (v0, v1, v2, vb) (l, c, e) = (v0, v1, v2, vb); unfold stepF; rw [if_neg]; simp [he]
        subst he
        go_wp2_with fail
        refine wp_region_noPanic ?_
        refine wp_region_held_drew (S := fun w' => (w'.cell? (ad.add (i * 3)) = some (.int .i64 l) ∧ w'.cell? ⟨(ad.add (i * 3)).block, (ad.add (i * 3)).off + 1, none⟩ = some (.int .i64 c) ∧ w'.cell? ⟨(ad.add (i * 3)).block, (ad.add (i * 3)).off + 2, none⟩ = some (.int .i64 0)) ∧ w'.cell? ⟨w.heap.size + 1, 0, none⟩ = some (.int .i64 v0) ∧ w'.cell? ⟨w.heap.size + 1, 1, none⟩ = some (.int .i64 v1) ∧ w'.cell? ⟨w.heap.size + 1, 2, none⟩ = some (.int .i64 v2)) (by kernel_rfl) (hS1) (fun hHeld => ?_)
        refine wpAnyH_take (i := 0) (oi := { dst := some 13, op := Go.Op.move (Go.Operand.tmp 0), type := 39, pos := "ref.go:80", after := #[], guard := none }) (v := ?_) rfl (by kernel_rfl) (by kernel_rfl) (by kernel_rfl) (fun _ _ _ h => h) (Or.inl ⟨by rfl, ?_⟩) hHeld ?_
        rotate_left 1
        · (intro w hSw; (try dsimp only at hSw); go_simp; (try with_reducible rfl))
        simp only [Act.put, List.setIfInBounds_toArray, List.set_cons_succ, List.set_cons_zero]
        refine wpAnyH_take (i := 1) (oi := { dst := some 14, op := Go.Op.move (Go.Operand.tmp 6), type := 3, pos := "ref.go:80", after := #[], guard := none }) (v := ?_) rfl (by kernel_rfl) (by kernel_rfl) (by kernel_rfl) (fun _ _ _ h => h) (Or.inl ⟨by rfl, ?_⟩) hHeld ?_
        rotate_left 1
        · (intro w hSw; (try dsimp only at hSw); go_simp; (try with_reducible rfl))
        simp only [Act.put, List.setIfInBounds_toArray, List.set_cons_succ, List.set_cons_zero]
        refine wpAnyH_take (i := 2) (oi := { dst := some 15, op := Go.Op.indexAddr 39 (Go.Operand.tmp 13) (Go.Operand.tmp 14), type := 0, pos := "ref.go:80", after := #[{ on := 0, ground := Go.Ground.data }, { on := 1, ground := Go.Ground.data }], guard := none }) (v := ?_) rfl (by kernel_rfl) (by kernel_rfl) (by kernel_rfl) (fun _ _ _ h => h) (Or.inl ⟨by rfl, ?_⟩) hHeld ?_
        rotate_left 1
        · (intro w hSw; (try dsimp only at hSw); go_simp; (try with_reducible rfl))
        simp only [Act.put, List.setIfInBounds_toArray, List.set_cons_succ, List.set_cons_zero]
        refine wpAnyH_take (i := 3) (oi := { dst := some 16, op := Go.Op.fieldAddr 42 (Go.Operand.tmp 15) 1, type := 0, pos := "ref.go:80", after := #[{ on := 2, ground := Go.Ground.data }], guard := none }) (v := ?_) rfl (by kernel_rfl) (by kernel_rfl) (by kernel_rfl) (fun _ _ _ h => h) (Or.inl ⟨by rfl, ?_⟩) hHeld ?_
        rotate_left 1
        · (intro w hSw; (try dsimp only at hSw); go_simp; (try with_reducible rfl))
        simp only [Act.put, List.setIfInBounds_toArray, List.set_cons_succ, List.set_cons_zero]
        refine wpAnyH_take (i := 4) (oi := { dst := some 17, op := Go.Op.load 40 (Go.Operand.tmp 16), type := 40, pos := "ref.go:80", after := #[{ on := 3, ground := Go.Ground.data }], guard := none }) (v := ?_) rfl (by kernel_rfl) (by kernel_rfl) (by kernel_rfl) (fun _ _ _ h => h) (Or.inl ⟨by rfl, ?_⟩) hHeld ?_
        rotate_left 1
        · (intro w hSw; (try dsimp only at hSw); go_simp; (try with_reducible rfl))
        simp only [Act.put, List.setIfInBounds_toArray, List.set_cons_succ, List.set_cons_zero]
        refine wpAnyH_take (i := 5) (oi := { dst := some 18, op := Go.Op.binOp Go.BinOp.neq 40 (Go.Operand.tmp 17) (Go.Operand.const (Go.Value.int Go.IntKind.i64 0)) 40, type := 4, pos := "ref.go:80", after := #[{ on := 4, ground := Go.Ground.data }], guard := none }) (v := ?_) rfl (by kernel_rfl) (by kernel_rfl) (by kernel_rfl) (fun _ _ _ h => h) (Or.inl ⟨by rfl, ?_⟩) hHeld ?_
        rotate_left 1
        · (intro w hSw; (try dsimp only at hSw); go_simp; (try with_reducible rfl))
        simp only [Act.put, List.setIfInBounds_toArray, List.set_cons_succ, List.set_cons_zero]
        refine wpAnyH_take (i := 6) (oi := { dst := some 19, op := Go.Op.move (Go.Operand.tmp 18), type := 4, pos := "ref.go:80", after := #[{ on := 5, ground := Go.Ground.data }], guard := none }) (v := ?_) rfl (by kernel_rfl) (by kernel_rfl) (by kernel_rfl) (fun _ _ _ h => h) (Or.inl ⟨by rfl, ?_⟩) hHeld ?_
        rotate_left 1
        · (intro w hSw; (try dsimp only at hSw); go_simp; (try with_reducible rfl))
        simp only [Act.put, List.setIfInBounds_toArray, List.set_cons_succ, List.set_cons_zero]
        refine wpAnyH_take (i := 7) (oi := { dst := some 20, op := Go.Op.move (Go.Operand.tmp 5), type := 4, pos := "ref.go:80", after := #[{ on := 6, ground := Go.Ground.guard }], guard := some (6, true) }) (v := undef) rfl (by kernel_rfl) (by kernel_rfl) (by kernel_rfl) (fun _ _ _ h => h) (Or.inr ⟨by rfl, rfl⟩) hHeld ?_
        simp only [Act.put, List.setIfInBounds_toArray, List.set_cons_succ, List.set_cons_zero]
        refine wpAnyH_take (i := 8) (oi := { dst := some 21, op := Go.Op.unOp Go.UnOp.not 4 (Go.Operand.tmp 20), type := 4, pos := "ref.go:80", after := #[{ on := 7, ground := Go.Ground.data }, { on := 6, ground := Go.Ground.guard }], guard := some (6, true) }) (v := undef) rfl (by kernel_rfl) (by kernel_rfl) (by kernel_rfl) (fun _ _ _ h => h) (Or.inr ⟨by rfl, rfl⟩) hHeld ?_
        simp only [Act.put, List.setIfInBounds_toArray, List.set_cons_succ, List.set_cons_zero]
        refine wpAnyH_take (i := 9) (oi := { dst := some 22, op := Go.Op.move (Go.Operand.tmp 21), type := 4, pos := "ref.go:80", after := #[{ on := 8, ground := Go.Ground.data }, { on := 6, ground := Go.Ground.chain }, { on := 6, ground := Go.Ground.guard }], guard := some (6, true) }) (v := undef) rfl (by kernel_rfl) (by kernel_rfl) (by kernel_rfl) (fun _ _ _ h => h) (Or.inr ⟨by rfl, rfl⟩) hHeld ?_
        simp only [Act.put, List.setIfInBounds_toArray, List.set_cons_succ, List.set_cons_zero]
        refine wpAnyH_take (i := 10) (oi := { dst := some 23, op := Go.Op.move (Go.Operand.tmp 0), type := 39, pos := "ref.go:80", after := #[{ on := 9, ground := Go.Ground.guard }], guard := some (9, false) }) (v := undef) rfl (by kernel_rfl) (by kernel_rfl) (by kernel_rfl) (fun _ _ _ h => h) (Or.inr ⟨by rfl, rfl⟩) hHeld ?_
        simp only [Act.put, List.setIfInBounds_toArray, List.set_cons_succ, List.set_cons_zero]
        refine wpAnyH_take (i := 11) (oi := { dst := some 24, op := Go.Op.move (Go.Operand.tmp 6), type := 3, pos := "ref.go:80", after := #[{ on := 9, ground := Go.Ground.guard }], guard := some (9, false) }) (v := undef) rfl (by kernel_rfl) (by kernel_rfl) (by kernel_rfl) (fun _ _ _ h => h) (Or.inr ⟨by rfl, rfl⟩) hHeld ?_
        simp only [Act.put, List.setIfInBounds_toArray, List.set_cons_succ, List.set_cons_zero]
        refine wpAnyH_take (i := 12) (oi := { dst := some 25, op := Go.Op.indexAddr 39 (Go.Operand.tmp 23) (Go.Operand.tmp 24), type := 0, pos := "ref.go:80", after := #[{ on := 10, ground := Go.Ground.data }, { on := 11, ground := Go.Ground.data }, { on := 9, ground := Go.Ground.guard }], guard := some (9, false) }) (v := undef) rfl (by kernel_rfl) (by kernel_rfl) (by kernel_rfl) (fun _ _ _ h => h) (Or.inr ⟨by rfl, rfl⟩) hHeld ?_
        simp only [Act.put, List.setIfInBounds_toArray, List.set_cons_succ, List.set_cons_zero]
        refine wpAnyH_take (i := 13) (oi := { dst := some 26, op := Go.Op.fieldAddr 42 (Go.Operand.tmp 25) 0, type := 0, pos := "ref.go:80", after := #[{ on := 12, ground := Go.Ground.data }, { on := 9, ground := Go.Ground.guard }], guard := some (9, false) }) (v := undef) rfl (by kernel_rfl) (by kernel_rfl) (by kernel_rfl) (fun _ _ _ h => h) (Or.inr ⟨by rfl, rfl⟩) hHeld ?_
        simp only [Act.put, List.setIfInBounds_toArray, List.set_cons_succ, List.set_cons_zero]
        refine wpAnyH_take (i := 14) (oi := { dst := some 27, op := Go.Op.load 27 (Go.Operand.tmp 26), type := 27, pos := "ref.go:80", after := #[{ on := 13, ground := Go.Ground.data }, { on := 9, ground := Go.Ground.guard }], guard := some (9, false) }) (v := undef) rfl (by kernel_rfl) (by kernel_rfl) (by kernel_rfl) (fun _ _ _ h => h) (Or.inr ⟨by rfl, rfl⟩) hHeld ?_
        simp only [Act.put, List.setIfInBounds_toArray, List.set_cons_succ, List.set_cons_zero]
        refine wpAnyH_take (i := 15) (oi := { dst := some 28, op := Go.Op.fieldAddr 42 (Go.Operand.tmp 4) 0, type := 0, pos := "ref.go:80", after := #[{ on := 9, ground := Go.Ground.guard }], guard := some (9, false) }) (v := undef) rfl (by kernel_rfl) (by kernel_rfl) (by kernel_rfl) (fun _ _ _ h => h) (Or.inr ⟨by rfl, rfl⟩) hHeld ?_
        simp only [Act.put, List.setIfInBounds_toArray, List.set_cons_succ, List.set_cons_zero]
        refine wpAnyH_take (i := 16) (oi := { dst := some 29, op := Go.Op.load 27 (Go.Operand.tmp 28), type := 27, pos := "ref.go:80", after := #[{ on := 15, ground := Go.Ground.data }, { on := 9, ground := Go.Ground.guard }], guard := some (9, false) }) (v := undef) rfl (by kernel_rfl) (by kernel_rfl) (by kernel_rfl) (fun _ _ _ h => h) (Or.inr ⟨by rfl, rfl⟩) hHeld ?_
        simp only [Act.put, List.setIfInBounds_toArray, List.set_cons_succ, List.set_cons_zero]
        refine wpAnyH_take (i := 17) (oi := { dst := some 30, op := Go.Op.call { callee := Go.Callee.value (Go.Operand.func 26), args := #[Go.Operand.tmp 27, Go.Operand.tmp 29], argTypes := #[27, 27] }, type := 3, pos := "ref.go:80", after := #[{ on := 14, ground := Go.Ground.data }, { on := 16, ground := Go.Ground.data }, { on := 9, ground := Go.Ground.chain }, { on := 9, ground := Go.Ground.guard }], guard := some (9, false) }) (v := undef) rfl (by kernel_rfl) (by kernel_rfl) (by kernel_rfl) (fun _ _ _ h => h) (Or.inr ⟨by rfl, rfl⟩) hHeld ?_
        simp only [Act.put, List.setIfInBounds_toArray, List.set_cons_succ, List.set_cons_zero]
        refine wpAnyH_take (i := 18) (oi := { dst := some 31, op := Go.Op.binOp Go.BinOp.lss 3 (Go.Operand.tmp 30) (Go.Operand.const (Go.Value.int Go.IntKind.i64 0)) 3, type := 4, pos := "ref.go:80", after := #[{ on := 17, ground := Go.Ground.data }, { on := 9, ground := Go.Ground.guard }], guard := some (9, false) }) (v := undef) rfl (by kernel_rfl) (by kernel_rfl) (by kernel_rfl) (fun _ _ _ h => h) (Or.inr ⟨by rfl, rfl⟩) hHeld ?_
        simp only [Act.put, List.setIfInBounds_toArray, List.set_cons_succ, List.set_cons_zero]
        refine wpAnyH_take (i := 19) (oi := { dst := some 32, op := Go.Op.pick (Go.Operand.tmp 22) (Go.Operand.const (Go.Value.bool true)) (Go.Operand.tmp 31), type := 4, pos := "ref.go:80", after := #[{ on := 9, ground := Go.Ground.data }, { on := 18, ground := Go.Ground.data }, { on := 6, ground := Go.Ground.guard }], guard := some (6, true) }) (v := undef) rfl (by kernel_rfl) (by kernel_rfl) (by kernel_rfl) (fun _ _ _ h => h) (Or.inr ⟨by rfl, rfl⟩) hHeld ?_
        simp only [Act.put, List.setIfInBounds_toArray, List.set_cons_succ, List.set_cons_zero]
        refine wpAnyH_take (i := 20) (oi := { dst := some 33, op := Go.Op.pick (Go.Operand.tmp 19) (Go.Operand.tmp 32) (Go.Operand.const (Go.Value.bool false)), type := 4, pos := "ref.go:80", after := #[{ on := 6, ground := Go.Ground.data }, { on := 19, ground := Go.Ground.data }], guard := none }) (v := ?_) rfl (by kernel_rfl) (by kernel_rfl) (by kernel_rfl) (fun _ _ _ h => h) (Or.inl ⟨by rfl, ?_⟩) hHeld ?_
        rotate_left 1
        · (intro w hSw; (try dsimp only at hSw); go_simp; (try with_reducible rfl))
        simp only [Act.put, List.setIfInBounds_toArray, List.set_cons_succ, List.set_cons_zero]
        refine wpAnyH_done (by kernel_rfl) ?_ _
        refine NoPanic.normal ?_
        go_wp2_with fail
        refine ⟨⟨i + 1, by omega, by go_num, by rw [hnext.out, HS.out], ?_⟩, by simp [intOf]; omega⟩
        rw [hnext.out, HS.out]
        exact hst1.out
      · have hne0 : (e != 0) = true := by simp [he]
        cases vb with
        | false =>
          have HS : Hid (stepF (v0, v1, v2, false) (l, c, e) = (l, c, e, true)) := by show stepF (v0, v1, v2, false) (l, c, e) = (l, c, e, true); unfold stepF; rw [if_pos]; simp [he]
          go_wp2_with fail
          refine wp_region_noPanic ?_
          refine wp_region_held_drew (S := fun w' => (w'.cell? (ad.add (i * 3)) = some (.int .i64 l) ∧ w'.cell? ⟨(ad.add (i * 3)).block, (ad.add (i * 3)).off + 1, none⟩ = some (.int .i64 c) ∧ w'.cell? ⟨(ad.add (i * 3)).block, (ad.add (i * 3)).off + 2, none⟩ = some (.int .i64 e)) ∧ w'.cell? ⟨w.heap.size + 1, 0, none⟩ = some (.int .i64 v0) ∧ w'.cell? ⟨w.heap.size + 1, 1, none⟩ = some (.int .i64 v1) ∧ w'.cell? ⟨w.heap.size + 1, 2, none⟩ = some (.int .i64 v2)) (by kernel_rfl) (hS1) (fun hHeld => ?_)
          refine wpAnyH_take (i := 0) (oi := { dst := some 13, op := Go.Op.move (Go.Operand.tmp 0), type := 39, pos := "ref.go:80", after := #[], guard := none }) (v := ?_) rfl (by kernel_rfl) (by kernel_rfl) (by kernel_rfl) (fun _ _ _ h => h) (Or.inl ⟨by rfl, ?_⟩) hHeld ?_
          rotate_left 1
          · (intro w hSw; (try dsimp only at hSw); go_simp; (try with_reducible rfl))
          simp only [Act.put, List.setIfInBounds_toArray, List.set_cons_succ, List.set_cons_zero]
          refine wpAnyH_take (i := 1) (oi := { dst := some 14, op := Go.Op.move (Go.Operand.tmp 6), type := 3, pos := "ref.go:80", after := #[], guard := none }) (v := ?_) rfl (by kernel_rfl) (by kernel_rfl) (by kernel_rfl) (fun _ _ _ h => h) (Or.inl ⟨by rfl, ?_⟩) hHeld ?_
          rotate_left 1
          · (intro w hSw; (try dsimp only at hSw); go_simp; (try with_reducible rfl))
          simp only [Act.put, List.setIfInBounds_toArray, List.set_cons_succ, List.set_cons_zero]
          refine wpAnyH_take (i := 2) (oi := { dst := some 15, op := Go.Op.indexAddr 39 (Go.Operand.tmp 13) (Go.Operand.tmp 14), type := 0, pos := "ref.go:80", after := #[{ on := 0, ground := Go.Ground.data }, { on := 1, ground := Go.Ground.data }], guard := none }) (v := ?_) rfl (by kernel_rfl) (by kernel_rfl) (by kernel_rfl) (fun _ _ _ h => h) (Or.inl ⟨by rfl, ?_⟩) hHeld ?_
          rotate_left 1
          · (intro w hSw; (try dsimp only at hSw); go_simp; (try with_reducible rfl))
          simp only [Act.put, List.setIfInBounds_toArray, List.set_cons_succ, List.set_cons_zero]
          refine wpAnyH_take (i := 3) (oi := { dst := some 16, op := Go.Op.fieldAddr 42 (Go.Operand.tmp 15) 1, type := 0, pos := "ref.go:80", after := #[{ on := 2, ground := Go.Ground.data }], guard := none }) (v := ?_) rfl (by kernel_rfl) (by kernel_rfl) (by kernel_rfl) (fun _ _ _ h => h) (Or.inl ⟨by rfl, ?_⟩) hHeld ?_
          rotate_left 1
          · (intro w hSw; (try dsimp only at hSw); go_simp; (try with_reducible rfl))
          simp only [Act.put, List.setIfInBounds_toArray, List.set_cons_succ, List.set_cons_zero]
          refine wpAnyH_take (i := 4) (oi := { dst := some 17, op := Go.Op.load 40 (Go.Operand.tmp 16), type := 40, pos := "ref.go:80", after := #[{ on := 3, ground := Go.Ground.data }], guard := none }) (v := ?_) rfl (by kernel_rfl) (by kernel_rfl) (by kernel_rfl) (fun _ _ _ h => h) (Or.inl ⟨by rfl, ?_⟩) hHeld ?_
          rotate_left 1
          · (intro w hSw; (try dsimp only at hSw); go_simp; (try with_reducible rfl))
          simp only [Act.put, List.setIfInBounds_toArray, List.set_cons_succ, List.set_cons_zero]
          refine wpAnyH_take (i := 5) (oi := { dst := some 18, op := Go.Op.binOp Go.BinOp.neq 40 (Go.Operand.tmp 17) (Go.Operand.const (Go.Value.int Go.IntKind.i64 0)) 40, type := 4, pos := "ref.go:80", after := #[{ on := 4, ground := Go.Ground.data }], guard := none }) (v := ?_) rfl (by kernel_rfl) (by kernel_rfl) (by kernel_rfl) (fun _ _ _ h => h) (Or.inl ⟨by rfl, ?_⟩) hHeld ?_
          rotate_left 1
          · (intro w hSw; (try dsimp only at hSw); go_simp; (try with_reducible rfl))
          simp only [Act.put, List.setIfInBounds_toArray, List.set_cons_succ, List.set_cons_zero]
          refine wpAnyH_take (i := 6) (oi := { dst := some 19, op := Go.Op.move (Go.Operand.tmp 18), type := 4, pos := "ref.go:80", after := #[{ on := 5, ground := Go.Ground.data }], guard := none }) (v := ?_) rfl (by kernel_rfl) (by kernel_rfl) (by kernel_rfl) (fun _ _ _ h => h) (Or.inl ⟨by rfl, ?_⟩) hHeld ?_
          rotate_left 1
          · (intro w hSw; (try dsimp only at hSw); go_simp; (try with_reducible rfl))
          simp only [Act.put, List.setIfInBounds_toArray, List.set_cons_succ, List.set_cons_zero]
          refine wpAnyH_take (i := 7) (oi := { dst := some 20, op := Go.Op.move (Go.Operand.tmp 5), type := 4, pos := "ref.go:80", after := #[{ on := 6, ground := Go.Ground.guard }], guard := some (6, true) }) (v := ?_) rfl (by kernel_rfl) (by kernel_rfl) (by kernel_rfl) (fun _ _ _ h => h) (Or.inl ⟨by rfl, ?_⟩) hHeld ?_
          rotate_left 1
          · (intro w hSw; (try dsimp only at hSw); go_simp; (try with_reducible rfl))
          simp only [Act.put, List.setIfInBounds_toArray, List.set_cons_succ, List.set_cons_zero]
          refine wpAnyH_take (i := 8) (oi := { dst := some 21, op := Go.Op.unOp Go.UnOp.not 4 (Go.Operand.tmp 20), type := 4, pos := "ref.go:80", after := #[{ on := 7, ground := Go.Ground.data }, { on := 6, ground := Go.Ground.guard }], guard := some (6, true) }) (v := ?_) rfl (by kernel_rfl) (by kernel_rfl) (by kernel_rfl) (fun _ _ _ h => h) (Or.inl ⟨by rfl, ?_⟩) hHeld ?_
          rotate_left 1
          · (intro w hSw; (try dsimp only at hSw); go_simp; (try with_reducible rfl))
          simp only [Act.put, List.setIfInBounds_toArray, List.set_cons_succ, List.set_cons_zero]
          refine wpAnyH_take (i := 9) (oi := { dst := some 22, op := Go.Op.move (Go.Operand.tmp 21), type := 4, pos := "ref.go:80", after := #[{ on := 8, ground := Go.Ground.data }, { on := 6, ground := Go.Ground.chain }, { on := 6, ground := Go.Ground.guard }], guard := some (6, true) }) (v := ?_) rfl (by kernel_rfl) (by kernel_rfl) (by kernel_rfl) (fun _ _ _ h => h) (Or.inl ⟨by rfl, ?_⟩) hHeld ?_
          rotate_left 1
          · (intro w hSw; (try dsimp only at hSw); go_simp; (try with_reducible rfl))
          simp only [Act.put, List.setIfInBounds_toArray, List.set_cons_succ, List.set_cons_zero]
          refine wpAnyH_take (i := 10) (oi := { dst := some 23, op := Go.Op.move (Go.Operand.tmp 0), type := 39, pos := "ref.go:80", after := #[{ on := 9, ground := Go.Ground.guard }], guard := some (9, false) }) (v := undef) rfl (by kernel_rfl) (by kernel_rfl) (by kernel_rfl) (fun _ _ _ h => h) (Or.inr ⟨by rfl, rfl⟩) hHeld ?_
          simp only [Act.put, List.setIfInBounds_toArray, List.set_cons_succ, List.set_cons_zero]
          refine wpAnyH_take (i := 11) (oi := { dst := some 24, op := Go.Op.move (Go.Operand.tmp 6), type := 3, pos := "ref.go:80", after := #[{ on := 9, ground := Go.Ground.guard }], guard := some (9, false) }) (v := undef) rfl (by kernel_rfl) (by kernel_rfl) (by kernel_rfl) (fun _ _ _ h => h) (Or.inr ⟨by rfl, rfl⟩) hHeld ?_
          simp only [Act.put, List.setIfInBounds_toArray, List.set_cons_succ, List.set_cons_zero]
          refine wpAnyH_take (i := 12) (oi := { dst := some 25, op := Go.Op.indexAddr 39 (Go.Operand.tmp 23) (Go.Operand.tmp 24), type := 0, pos := "ref.go:80", after := #[{ on := 10, ground := Go.Ground.data }, { on := 11, ground := Go.Ground.data }, { on := 9, ground := Go.Ground.guard }], guard := some (9, false) }) (v := undef) rfl (by kernel_rfl) (by kernel_rfl) (by kernel_rfl) (fun _ _ _ h => h) (Or.inr ⟨by rfl, rfl⟩) hHeld ?_
          simp only [Act.put, List.setIfInBounds_toArray, List.set_cons_succ, List.set_cons_zero]
          refine wpAnyH_take (i := 13) (oi := { dst := some 26, op := Go.Op.fieldAddr 42 (Go.Operand.tmp 25) 0, type := 0, pos := "ref.go:80", after := #[{ on := 12, ground := Go.Ground.data }, { on := 9, ground := Go.Ground.guard }], guard := some (9, false) }) (v := undef) rfl (by kernel_rfl) (by kernel_rfl) (by kernel_rfl) (fun _ _ _ h => h) (Or.inr ⟨by rfl, rfl⟩) hHeld ?_
          simp only [Act.put, List.setIfInBounds_toArray, List.set_cons_succ, List.set_cons_zero]
          refine wpAnyH_take (i := 14) (oi := { dst := some 27, op := Go.Op.load 27 (Go.Operand.tmp 26), type := 27, pos := "ref.go:80", after := #[{ on := 13, ground := Go.Ground.data }, { on := 9, ground := Go.Ground.guard }], guard := some (9, false) }) (v := undef) rfl (by kernel_rfl) (by kernel_rfl) (by kernel_rfl) (fun _ _ _ h => h) (Or.inr ⟨by rfl, rfl⟩) hHeld ?_
          simp only [Act.put, List.setIfInBounds_toArray, List.set_cons_succ, List.set_cons_zero]
          refine wpAnyH_take (i := 15) (oi := { dst := some 28, op := Go.Op.fieldAddr 42 (Go.Operand.tmp 4) 0, type := 0, pos := "ref.go:80", after := #[{ on := 9, ground := Go.Ground.guard }], guard := some (9, false) }) (v := undef) rfl (by kernel_rfl) (by kernel_rfl) (by kernel_rfl) (fun _ _ _ h => h) (Or.inr ⟨by rfl, rfl⟩) hHeld ?_
          simp only [Act.put, List.setIfInBounds_toArray, List.set_cons_succ, List.set_cons_zero]
          refine wpAnyH_take (i := 16) (oi := { dst := some 29, op := Go.Op.load 27 (Go.Operand.tmp 28), type := 27, pos := "ref.go:80", after := #[{ on := 15, ground := Go.Ground.data }, { on := 9, ground := Go.Ground.guard }], guard := some (9, false) }) (v := undef) rfl (by kernel_rfl) (by kernel_rfl) (by kernel_rfl) (fun _ _ _ h => h) (Or.inr ⟨by rfl, rfl⟩) hHeld ?_
          simp only [Act.put, List.setIfInBounds_toArray, List.set_cons_succ, List.set_cons_zero]
          refine wpAnyH_take (i := 17) (oi := { dst := some 30, op := Go.Op.call { callee := Go.Callee.value (Go.Operand.func 26), args := #[Go.Operand.tmp 27, Go.Operand.tmp 29], argTypes := #[27, 27] }, type := 3, pos := "ref.go:80", after := #[{ on := 14, ground := Go.Ground.data }, { on := 16, ground := Go.Ground.data }, { on := 9, ground := Go.Ground.chain }, { on := 9, ground := Go.Ground.guard }], guard := some (9, false) }) (v := undef) rfl (by kernel_rfl) (by kernel_rfl) (by kernel_rfl) (fun _ _ _ h => h) (Or.inr ⟨by rfl, rfl⟩) hHeld ?_
          simp only [Act.put, List.setIfInBounds_toArray, List.set_cons_succ, List.set_cons_zero]
          refine wpAnyH_take (i := 18) (oi := { dst := some 31, op := Go.Op.binOp Go.BinOp.lss 3 (Go.Operand.tmp 30) (Go.Operand.const (Go.Value.int Go.IntKind.i64 0)) 3, type := 4, pos := "ref.go:80", after := #[{ on := 17, ground := Go.Ground.data }, { on := 9, ground := Go.Ground.guard }], guard := some (9, false) }) (v := undef) rfl (by kernel_rfl) (by kernel_rfl) (by kernel_rfl) (fun _ _ _ h => h) (Or.inr ⟨by rfl, rfl⟩) hHeld ?_
          simp only [Act.put, List.setIfInBounds_toArray, List.set_cons_succ, List.set_cons_zero]
          refine wpAnyH_take (i := 19) (oi := { dst := some 32, op := Go.Op.pick (Go.Operand.tmp 22) (Go.Operand.const (Go.Value.bool true)) (Go.Operand.tmp 31), type := 4, pos := "ref.go:80", after := #[{ on := 9, ground := Go.Ground.data }, { on := 18, ground := Go.Ground.data }, { on := 6, ground := Go.Ground.guard }], guard := some (6, true) }) (v := ?_) rfl (by kernel_rfl) (by kernel_rfl) (by kernel_rfl) (fun _ _ _ h => h) (Or.inl ⟨by rfl, ?_⟩) hHeld ?_
          rotate_left 1
          · (intro w hSw; (try dsimp only at hSw); go_simp; (try with_reducible rfl))
          simp only [Act.put, List.setIfInBounds_toArray, List.set_cons_succ, List.set_cons_zero]
          refine wpAnyH_take (i := 20) (oi := { dst := some 33, op := Go.Op.pick (Go.Operand.tmp 19) (Go.Operand.tmp 32) (Go.Operand.const (Go.Value.bool false)), type := 4, pos := "ref.go:80", after := #[{ on := 6, ground := Go.Ground.data }, { on := 19, ground := Go.Ground.data }], guard := none }) (v := ?_) rfl (by kernel_rfl) (by kernel_rfl) (by kernel_rfl) (fun _ _ _ h => h) (Or.inl ⟨by rfl, ?_⟩) hHeld ?_
          rotate_left 1
          · (intro w hSw; (try dsimp only at hSw); go_simp; (try with_reducible rfl))
          simp only [Act.put, List.setIfInBounds_toArray, List.set_cons_succ, List.set_cons_zero]
          refine wpAnyH_done (by kernel_rfl) ?_ _
          refine NoPanic.normal ?_
          clear hHeld
          generalize wr.drew = V at *
          obtain ⟨⟨k0, k1, k2⟩, k3, k4, k5⟩ := hS1
          have f3 := hst1.out.2.1.f0
          have f4 := hst1.out.2.1.f1
          have f5 := hst1.out.2.1.f2
          go_wp2_with fail
          have q1 := hst1.out.2.1.all l c e
          refine ⟨⟨i + 1, by omega, by go_num, by rw [hnext.out, HS.out], ?_⟩, by simp [intOf]; omega⟩
          rw [hnext.out, HS.out]
          exact stored hst1.out
        | true =>
          by_cases hlt2 : posCmp l c v0 v1 < 0
          · have HS : Hid (stepF (v0, v1, v2, true) (l, c, e) = (l, c, e, true)) := by show stepF (v0, v1, v2, true) (l, c, e) = (l, c, e, true); unfold stepF; rw [if_pos]; simp [he, hlt2]
            go_wp2_with fail
            refine wp_region_noPanic ?_
            refine wp_region_held_drew (S := fun w' => (w'.cell? (ad.add (i * 3)) = some (.int .i64 l) ∧ w'.cell? ⟨(ad.add (i * 3)).block, (ad.add (i * 3)).off + 1, none⟩ = some (.int .i64 c) ∧ w'.cell? ⟨(ad.add (i * 3)).block, (ad.add (i * 3)).off + 2, none⟩ = some (.int .i64 e)) ∧ w'.cell? ⟨w.heap.size + 1, 0, none⟩ = some (.int .i64 v0) ∧ w'.cell? ⟨w.heap.size + 1, 1, none⟩ = some (.int .i64 v1) ∧ w'.cell? ⟨w.heap.size + 1, 2, none⟩ = some (.int .i64 v2)) (by kernel_rfl) (hS1) (fun hHeld => ?_)
            refine wpAnyH_take (i := 0) (oi := { dst := some 13, op := Go.Op.move (Go.Operand.tmp 0), type := 39, pos := "ref.go:80", after := #[], guard := none }) (v := ?_) rfl (by kernel_rfl) (by kernel_rfl) (by kernel_rfl) (fun _ _ _ h => h) (Or.inl ⟨by rfl, ?_⟩) hHeld ?_
            rotate_left 1
            · (intro w hSw; (try dsimp only at hSw); go_simp; (try with_reducible rfl))
            simp only [Act.put, List.setIfInBounds_toArray, List.set_cons_succ, List.set_cons_zero]
            refine wpAnyH_take (i := 1) (oi := { dst := some 14, op := Go.Op.move (Go.Operand.tmp 6), type := 3, pos := "ref.go:80", after := #[], guard := none }) (v := ?_) rfl (by kernel_rfl) (by kernel_rfl) (by kernel_rfl) (fun _ _ _ h => h) (Or.inl ⟨by rfl, ?_⟩) hHeld ?_
            rotate_left 1
            · (intro w hSw; (try dsimp only at hSw); go_simp; (try with_reducible rfl))
            simp only [Act.put, List.setIfInBounds_toArray, List.set_cons_succ, List.set_cons_zero]
            refine wpAnyH_take (i := 2) (oi := { dst := some 15, op := Go.Op.indexAddr 39 (Go.Operand.tmp 13) (Go.Operand.tmp 14), type := 0, pos := "ref.go:80", after := #[{ on := 0, ground := Go.Ground.data }, { on := 1, ground := Go.Ground.data }], guard := none }) (v := ?_) rfl (by kernel_rfl) (by kernel_rfl) (by kernel_rfl) (fun _ _ _ h => h) (Or.inl ⟨by rfl, ?_⟩) hHeld ?_
            rotate_left 1
            · (intro w hSw; (try dsimp only at hSw); go_simp; (try with_reducible rfl))
            simp only [Act.put, List.setIfInBounds_toArray, List.set_cons_succ, List.set_cons_zero]
            refine wpAnyH_take (i := 3) (oi := { dst := some 16, op := Go.Op.fieldAddr 42 (Go.Operand.tmp 15) 1, type := 0, pos := "ref.go:80", after := #[{ on := 2, ground := Go.Ground.data }], guard := none }) (v := ?_) rfl (by kernel_rfl) (by kernel_rfl) (by kernel_rfl) (fun _ _ _ h => h) (Or.inl ⟨by rfl, ?_⟩) hHeld ?_
            rotate_left 1
            · (intro w hSw; (try dsimp only at hSw); go_simp; (try with_reducible rfl))
            simp only [Act.put, List.setIfInBounds_toArray, List.set_cons_succ, List.set_cons_zero]
            refine wpAnyH_take (i := 4) (oi := { dst := some 17, op := Go.Op.load 40 (Go.Operand.tmp 16), type := 40, pos := "ref.go:80", after := #[{ on := 3, ground := Go.Ground.data }], guard := none }) (v := ?_) rfl (by kernel_rfl) (by kernel_rfl) (by kernel_rfl) (fun _ _ _ h => h) (Or.inl ⟨by rfl, ?_⟩) hHeld ?_
            rotate_left 1
            · (intro w hSw; (try dsimp only at hSw); go_simp; (try with_reducible rfl))
            simp only [Act.put, List.setIfInBounds_toArray, List.set_cons_succ, List.set_cons_zero]
            refine wpAnyH_take (i := 5) (oi := { dst := some 18, op := Go.Op.binOp Go.BinOp.neq 40 (Go.Operand.tmp 17) (Go.Operand.const (Go.Value.int Go.IntKind.i64 0)) 40, type := 4, pos := "ref.go:80", after := #[{ on := 4, ground := Go.Ground.data }], guard := none }) (v := ?_) rfl (by kernel_rfl) (by kernel_rfl) (by kernel_rfl) (fun _ _ _ h => h) (Or.inl ⟨by rfl, ?_⟩) hHeld ?_
            rotate_left 1
            · (intro w hSw; (try dsimp only at hSw); go_simp; (try with_reducible rfl))
            simp only [Act.put, List.setIfInBounds_toArray, List.set_cons_succ, List.set_cons_zero]
            refine wpAnyH_take (i := 6) (oi := { dst := some 19, op := Go.Op.move (Go.Operand.tmp 18), type := 4, pos := "ref.go:80", after := #[{ on := 5, ground := Go.Ground.data }], guard := none }) (v := ?_) rfl (by kernel_rfl) (by kernel_rfl) (by kernel_rfl) (fun _ _ _ h => h) (Or.inl ⟨by rfl, ?_⟩) hHeld ?_
            rotate_left 1
            · (intro w hSw; (try dsimp only at hSw); go_simp; (try with_reducible rfl))
            simp only [Act.put, List.setIfInBounds_toArray, List.set_cons_succ, List.set_cons_zero]
            refine wpAnyH_take (i := 7) (oi := { dst := some 20, op := Go.Op.move (Go.Operand.tmp 5), type := 4, pos := "ref.go:80", after := #[{ on := 6, ground := Go.Ground.guard }], guard := some (6, true) }) (v := ?_) rfl (by kernel_rfl) (by kernel_rfl) (by kernel_rfl) (fun _ _ _ h => h) (Or.inl ⟨by rfl, ?_⟩) hHeld ?_
            rotate_left 1
            · (intro w hSw; (try dsimp only at hSw); go_simp; (try with_reducible rfl))
            simp only [Act.put, List.setIfInBounds_toArray, List.set_cons_succ, List.set_cons_zero]
            refine wpAnyH_take (i := 8) (oi := { dst := some 21, op := Go.Op.unOp Go.UnOp.not 4 (Go.Operand.tmp 20), type := 4, pos := "ref.go:80", after := #[{ on := 7, ground := Go.Ground.data }, { on := 6, ground := Go.Ground.guard }], guard := some (6, true) }) (v := ?_) rfl (by kernel_rfl) (by kernel_rfl) (by kernel_rfl) (fun _ _ _ h => h) (Or.inl ⟨by rfl, ?_⟩) hHeld ?_
            rotate_left 1
            · (intro w hSw; (try dsimp only at hSw); go_simp; (try with_reducible rfl))
            simp only [Act.put, List.setIfInBounds_toArray, List.set_cons_succ, List.set_cons_zero]
            refine wpAnyH_take (i := 9) (oi := { dst := some 22, op := Go.Op.move (Go.Operand.tmp 21), type := 4, pos := "ref.go:80", after := #[{ on := 8, ground := Go.Ground.data }, { on := 6, ground := Go.Ground.chain }, { on := 6, ground := Go.Ground.guard }], guard := some (6, true) }) (v := ?_) rfl (by kernel_rfl) (by kernel_rfl) (by kernel_rfl) (fun _ _ _ h => h) (Or.inl ⟨by rfl, ?_⟩) hHeld ?_
            rotate_left 1
            · (intro w hSw; (try dsimp only at hSw); go_simp; (try with_reducible rfl))
            simp only [Act.put, List.setIfInBounds_toArray, List.set_cons_succ, List.set_cons_zero]
            refine wpAnyH_take (i := 10) (oi := { dst := some 23, op := Go.Op.move (Go.Operand.tmp 0), type := 39, pos := "ref.go:80", after := #[{ on := 9, ground := Go.Ground.guard }], guard := some (9, false) }) (v := ?_) rfl (by kernel_rfl) (by kernel_rfl) (by kernel_rfl) (fun _ _ _ h => h) (Or.inl ⟨by rfl, ?_⟩) hHeld ?_
            rotate_left 1
            · (intro w hSw; (try dsimp only at hSw); go_simp; (try with_reducible rfl))
            simp only [Act.put, List.setIfInBounds_toArray, List.set_cons_succ, List.set_cons_zero]
            refine wpAnyH_take (i := 11) (oi := { dst := some 24, op := Go.Op.move (Go.Operand.tmp 6), type := 3, pos := "ref.go:80", after := #[{ on := 9, ground := Go.Ground.guard }], guard := some (9, false) }) (v := ?_) rfl (by kernel_rfl) (by kernel_rfl) (by kernel_rfl) (fun _ _ _ h => h) (Or.inl ⟨by rfl, ?_⟩) hHeld ?_
            rotate_left 1
            · (intro w hSw; (try dsimp only at hSw); go_simp; (try with_reducible rfl))
            simp only [Act.put, List.setIfInBounds_toArray, List.set_cons_succ, List.set_cons_zero]
            refine wpAnyH_take (i := 12) (oi := { dst := some 25, op := Go.Op.indexAddr 39 (Go.Operand.tmp 23) (Go.Operand.tmp 24), type := 0, pos := "ref.go:80", after := #[{ on := 10, ground := Go.Ground.data }, { on := 11, ground := Go.Ground.data }, { on := 9, ground := Go.Ground.guard }], guard := some (9, false) }) (v := ?_) rfl (by kernel_rfl) (by kernel_rfl) (by kernel_rfl) (fun _ _ _ h => h) (Or.inl ⟨by rfl, ?_⟩) hHeld ?_
            rotate_left 1
            · (intro w hSw; (try dsimp only at hSw); go_simp; (try with_reducible rfl))
            simp only [Act.put, List.setIfInBounds_toArray, List.set_cons_succ, List.set_cons_zero]
            refine wpAnyH_take (i := 13) (oi := { dst := some 26, op := Go.Op.fieldAddr 42 (Go.Operand.tmp 25) 0, type := 0, pos := "ref.go:80", after := #[{ on := 12, ground := Go.Ground.data }, { on := 9, ground := Go.Ground.guard }], guard := some (9, false) }) (v := ?_) rfl (by kernel_rfl) (by kernel_rfl) (by kernel_rfl) (fun _ _ _ h => h) (Or.inl ⟨by rfl, ?_⟩) hHeld ?_
            rotate_left 1
            · (intro w hSw; (try dsimp only at hSw); go_simp; (try with_reducible rfl))
            simp only [Act.put, List.setIfInBounds_toArray, List.set_cons_succ, List.set_cons_zero]
            refine wpAnyH_take (i := 14) (oi := { dst := some 27, op := Go.Op.load 27 (Go.Operand.tmp 26), type := 27, pos := "ref.go:80", after := #[{ on := 13, ground := Go.Ground.data }, { on := 9, ground := Go.Ground.guard }], guard := some (9, false) }) (v := ?_) rfl (by kernel_rfl) (by kernel_rfl) (by kernel_rfl) (fun _ _ _ h => h) (Or.inl ⟨by rfl, ?_⟩) hHeld ?_
            rotate_left 1
            · (intro w hSw; (try dsimp only at hSw); go_simp; (try with_reducible rfl))
            simp only [Act.put, List.setIfInBounds_toArray, List.set_cons_succ, List.set_cons_zero]
            refine wpAnyH_take (i := 15) (oi := { dst := some 28, op := Go.Op.fieldAddr 42 (Go.Operand.tmp 4) 0, type := 0, pos := "ref.go:80", after := #[{ on := 9, ground := Go.Ground.guard }], guard := some (9, false) }) (v := ?_) rfl (by kernel_rfl) (by kernel_rfl) (by kernel_rfl) (fun _ _ _ h => h) (Or.inl ⟨by rfl, ?_⟩) hHeld ?_
            rotate_left 1
            · (intro w hSw; (try dsimp only at hSw); go_simp; (try with_reducible rfl))
            simp only [Act.put, List.setIfInBounds_toArray, List.set_cons_succ, List.set_cons_zero]
            refine wpAnyH_take (i := 16) (oi := { dst := some 29, op := Go.Op.load 27 (Go.Operand.tmp 28), type := 27, pos := "ref.go:80", after := #[{ on := 15, ground := Go.Ground.data }, { on := 9, ground := Go.Ground.guard }], guard := some (9, false) }) (v := ?_) rfl (by kernel_rfl) (by kernel_rfl) (by kernel_rfl) (fun _ _ _ h => h) (Or.inl ⟨by rfl, ?_⟩) hHeld ?_
            rotate_left 1
            · (intro w hSw; (try dsimp only at hSw); go_simp; (try with_reducible rfl))
            simp only [Act.put, List.setIfInBounds_toArray, List.set_cons_succ, List.set_cons_zero]
            refine wpAnyH_ready (rs := [17]) (by kernel_rfl) (by simp) ?_
            refine AllReadyH.cons (o := { dst := some 30, op := Go.Op.call { callee := Go.Callee.value (Go.Operand.func 26), args := #[Go.Operand.tmp 27, Go.Operand.tmp 29], argTypes := #[27, 27] }, type := 3, pos := "ref.go:80", after := #[{ on := 14, ground := Go.Ground.data }, { on := 16, ground := Go.Ground.data }, { on := 9, ground := Go.Ground.chain }, { on := 9, ground := Go.Ground.guard }], guard := some (9, false) }) rfl (fun K hK => ?_) AllReadyH.nil
            go_simp
            refine (refPosCmp l c v0 v1 wr.drew).mono ?_
            rintro e w2 ⟨rfl, hb2⟩
            have hst2 := Lib.hid (And.intro (hst1.out.1.step hb2) (And.intro (hst1.out.2.1.step hb2) (bthen4 hst1.out.2.2 hb2)))
            have hS2 := cstep6 hb2 hS1
            refine hK.out _ _ (hS2) (fun hHeld => ?_)
            clear hK K
            refine wpAnyH_take (i := 18) (oi := { dst := some 31, op := Go.Op.binOp Go.BinOp.lss 3 (Go.Operand.tmp 30) (Go.Operand.const (Go.Value.int Go.IntKind.i64 0)) 3, type := 4, pos := "ref.go:80", after := #[{ on := 17, ground := Go.Ground.data }, { on := 9, ground := Go.Ground.guard }], guard := some (9, false) }) (v := ?_) rfl (by kernel_rfl) (by kernel_rfl) (by kernel_rfl) (fun _ _ _ h => h) (Or.inl ⟨by rfl, ?_⟩) hHeld ?_
            rotate_left 1
            · (intro w hSw; (try dsimp only at hSw); go_simp; (try with_reducible rfl))
            simp only [Act.put, List.setIfInBounds_toArray, List.set_cons_succ, List.set_cons_zero]
            refine wpAnyH_take (i := 19) (oi := { dst := some 32, op := Go.Op.pick (Go.Operand.tmp 22) (Go.Operand.const (Go.Value.bool true)) (Go.Operand.tmp 31), type := 4, pos := "ref.go:80", after := #[{ on := 9, ground := Go.Ground.data }, { on := 18, ground := Go.Ground.data }, { on := 6, ground := Go.Ground.guard }], guard := some (6, true) }) (v := ?_) rfl (by kernel_rfl) (by kernel_rfl) (by kernel_rfl) (fun _ _ _ h => h) (Or.inl ⟨by rfl, ?_⟩) hHeld ?_
            rotate_left 1
            · (intro w hSw; (try dsimp only at hSw); go_simp; (try with_reducible rfl))
            simp only [Act.put, List.setIfInBounds_toArray, List.set_cons_succ, List.set_cons_zero]
            refine wpAnyH_take (i := 20) (oi := { dst := some 33, op := Go.Op.pick (Go.Operand.tmp 19) (Go.Operand.tmp 32) (Go.Operand.const (Go.Value.bool false)), type := 4, pos := "ref.go:80", after := #[{ on := 6, ground := Go.Ground.data }, { on := 19, ground := Go.Ground.data }], guard := none }) (v := ?_) rfl (by kernel_rfl) (by kernel_rfl) (by kernel_rfl) (fun _ _ _ h => h) (Or.inl ⟨by rfl, ?_⟩) hHeld ?_
            rotate_left 1
            · (intro w hSw; (try dsimp only at hSw); go_simp; (try with_reducible rfl))
            simp only [Act.put, List.setIfInBounds_toArray, List.set_cons_succ, List.set_cons_zero]
            refine wpAnyH_done (by kernel_rfl) ?_ _
            refine NoPanic.normal ?_
            obtain ⟨⟨k0, k1, k2⟩, k3, k4, k5⟩ := hS2
            have f3 := hst2.out.2.1.f0
            have f4 := hst2.out.2.1.f1
            have f5 := hst2.out.2.1.f2
            go_wp2_with fail
            have q1 := hst2.out.2.1.all l c e
            refine ⟨⟨i + 1, by omega, by go_num, by rw [hnext.out, HS.out], ?_⟩, by simp [intOf]; omega⟩
            rw [hnext.out, HS.out]
            exact stored hst2.out
          · have HS : Hid (stepF (v0, v1, v2, true) (l, c, e) = (v0, v1, v2, true)) := by show stepF (v0, v1, v2, true) (l, c, e) = (v0, v1, v2, true); unfold stepF; rw [if_neg]; simp [hlt2]
            go_wp2_with fail
            refine wp_region_noPanic ?_
            refine wp_region_held_drew (S := fun w' => (w'.cell? (ad.add (i * 3)) = some (.int .i64 l) ∧ w'.cell? ⟨(ad.add (i * 3)).block, (ad.add (i * 3)).off + 1, none⟩ = some (.int .i64 c) ∧ w'.cell? ⟨(ad.add (i * 3)).block, (ad.add (i * 3)).off + 2, none⟩ = some (.int .i64 e)) ∧ w'.cell? ⟨w.heap.size + 1, 0, none⟩ = some (.int .i64 v0) ∧ w'.cell? ⟨w.heap.size + 1, 1, none⟩ = some (.int .i64 v1) ∧ w'.cell? ⟨w.heap.size + 1, 2, none⟩ = some (.int .i64 v2)) (by kernel_rfl) (hS1) (fun hHeld => ?_)
            refine wpAnyH_take (i := 0) (oi := { dst := some 13, op := Go.Op.move (Go.Operand.tmp 0), type := 39, pos := "ref.go:80", after := #[], guard := none }) (v := ?_) rfl (by kernel_rfl) (by kernel_rfl) (by kernel_rfl) (fun _ _ _ h => h) (Or.inl ⟨by rfl, ?_⟩) hHeld ?_
            rotate_left 1
            · (intro w hSw; (try dsimp only at hSw); go_simp; (try with_reducible rfl))
            simp only [Act.put, List.setIfInBounds_toArray, List.set_cons_succ, List.set_cons_zero]
            refine wpAnyH_take (i := 1) (oi := { dst := some 14, op := Go.Op.move (Go.Operand.tmp 6), type := 3, pos := "ref.go:80", after := #[], guard := none }) (v := ?_) rfl (by kernel_rfl) (by kernel_rfl) (by kernel_rfl) (fun _ _ _ h => h) (Or.inl ⟨by rfl, ?_⟩) hHeld ?_
            rotate_left 1
            · (intro w hSw; (try dsimp only at hSw); go_simp; (try with_reducible rfl))
            simp only [Act.put, List.setIfInBounds_toArray, List.set_cons_succ, List.set_cons_zero]
            refine wpAnyH_take (i := 2) (oi := { dst := some 15, op := Go.Op.indexAddr 39 (Go.Operand.tmp 13) (Go.Operand.tmp 14), type := 0, pos := "ref.go:80", after := #[{ on := 0, ground := Go.Ground.data }, { on := 1, ground := Go.Ground.data }], guard := none }) (v := ?_) rfl (by kernel_rfl) (by kernel_rfl) (by kernel_rfl) (fun _ _ _ h => h) (Or.inl ⟨by rfl, ?_⟩) hHeld ?_
            rotate_left 1
            · (intro w hSw; (try dsimp only at hSw); go_simp; (try with_reducible rfl))
            simp only [Act.put, List.setIfInBounds_toArray, List.set_cons_succ, List.set_cons_zero]
            refine wpAnyH_take (i := 3) (oi := { dst := some 16, op := Go.Op.fieldAddr 42 (Go.Operand.tmp 15) 1, type := 0, pos := "ref.go:80", after := #[{ on := 2, ground := Go.Ground.data }], guard := none }) (v := ?_) rfl (by kernel_rfl) (by kernel_rfl) (by kernel_rfl) (fun _ _ _ h => h) (Or.inl ⟨by rfl, ?_⟩) hHeld ?_
            rotate_left 1
            · (intro w hSw; (try dsimp only at hSw); go_simp; (try with_reducible rfl))
            simp only [Act.put, List.setIfInBounds_toArray, List.set_cons_succ, List.set_cons_zero]
            refine wpAnyH_take (i := 4) (oi := { dst := some 17, op := Go.Op.load 40 (Go.Operand.tmp 16), type := 40, pos := "ref.go:80", after := #[{ on := 3, ground := Go.Ground.data }], guard := none }) (v := ?_) rfl (by kernel_rfl) (by kernel_rfl) (by kernel_rfl) (fun _ _ _ h => h) (Or.inl ⟨by rfl, ?_⟩) hHeld ?_
            rotate_left 1
            · (intro w hSw; (try dsimp only at hSw); go_simp; (try with_reducible rfl))
            simp only [Act.put, List.setIfInBounds_toArray, List.set_cons_succ, List.set_cons_zero]
            refine wpAnyH_take (i := 5) (oi := { dst := some 18, op := Go.Op.binOp Go.BinOp.neq 40 (Go.Operand.tmp 17) (Go.Operand.const (Go.Value.int Go.IntKind.i64 0)) 40, type := 4, pos := "ref.go:80", after := #[{ on := 4, ground := Go.Ground.data }], guard := none }) (v := ?_) rfl (by kernel_rfl) (by kernel_rfl) (by kernel_rfl) (fun _ _ _ h => h) (Or.inl ⟨by rfl, ?_⟩) hHeld ?_
            rotate_left 1
            · (intro w hSw; (try dsimp only at hSw); go_simp; (try with_reducible rfl))
            simp only [Act.put, List.setIfInBounds_toArray, List.set_cons_succ, List.set_cons_zero]
            refine wpAnyH_take (i := 6) (oi := { dst := some 19, op := Go.Op.move (Go.Operand.tmp 18), type := 4, pos := "ref.go:80", after := #[{ on := 5, ground := Go.Ground.data }], guard := none }) (v := ?_) rfl (by kernel_rfl) (by kernel_rfl) (by kernel_rfl) (fun _ _ _ h => h) (Or.inl ⟨by rfl, ?_⟩) hHeld ?_
            rotate_left 1
            · (intro w hSw; (try dsimp only at hSw); go_simp; (try with_reducible rfl))
            simp only [Act.put, List.setIfInBounds_toArray, List.set_cons_succ, List.set_cons_zero]
            refine wpAnyH_take (i := 7) (oi := { dst := some 20, op := Go.Op.move (Go.Operand.tmp 5), type := 4, pos := "ref.go:80", after := #[{ on := 6, ground := Go.Ground.guard }], guard := some (6, true) }) (v := ?_) rfl (by kernel_rfl) (by kernel_rfl) (by kernel_rfl) (fun _ _ _ h => h) (Or.inl ⟨by rfl, ?_⟩) hHeld ?_
            rotate_left 1
            · (intro w hSw; (try dsimp only at hSw); go_simp; (try with_reducible rfl))
            simp only [Act.put, List.setIfInBounds_toArray, List.set_cons_succ, List.set_cons_zero]
            refine wpAnyH_take (i := 8) (oi := { dst := some 21, op := Go.Op.unOp Go.UnOp.not 4 (Go.Operand.tmp 20), type := 4, pos := "ref.go:80", after := #[{ on := 7, ground := Go.Ground.data }, { on := 6, ground := Go.Ground.guard }], guard := some (6, true) }) (v := ?_) rfl (by kernel_rfl) (by kernel_rfl) (by kernel_rfl) (fun _ _ _ h => h) (Or.inl ⟨by rfl, ?_⟩) hHeld ?_
            rotate_left 1
            · (intro w hSw; (try dsimp only at hSw); go_simp; (try with_reducible rfl))
            simp only [Act.put, List.setIfInBounds_toArray, List.set_cons_succ, List.set_cons_zero]
            refine wpAnyH_take (i := 9) (oi := { dst := some 22, op := Go.Op.move (Go.Operand.tmp 21), type := 4, pos := "ref.go:80", after := #[{ on := 8, ground := Go.Ground.data }, { on := 6, ground := Go.Ground.chain }, { on := 6, ground := Go.Ground.guard }], guard := some (6, true) }) (v := ?_) rfl (by kernel_rfl) (by kernel_rfl) (by kernel_rfl) (fun _ _ _ h => h) (Or.inl ⟨by rfl, ?_⟩) hHeld ?_
            rotate_left 1
            · (intro w hSw; (try dsimp only at hSw); go_simp; (try with_reducible rfl))
            simp only [Act.put, List.setIfInBounds_toArray, List.set_cons_succ, List.set_cons_zero]
            refine wpAnyH_take (i := 10) (oi := { dst := some 23, op := Go.Op.move (Go.Operand.tmp 0), type := 39, pos := "ref.go:80", after := #[{ on := 9, ground := Go.Ground.guard }], guard := some (9, false) }) (v := ?_) rfl (by kernel_rfl) (by kernel_rfl) (by kernel_rfl) (fun _ _ _ h => h) (Or.inl ⟨by rfl, ?_⟩) hHeld ?_
            rotate_left 1
            · (intro w hSw; (try dsimp only at hSw); go_simp; (try with_reducible rfl))
            simp only [Act.put, List.setIfInBounds_toArray, List.set_cons_succ, List.set_cons_zero]
            refine wpAnyH_take (i := 11) (oi := { dst := some 24, op := Go.Op.move (Go.Operand.tmp 6), type := 3, pos := "ref.go:80", after := #[{ on := 9, ground := Go.Ground.guard }], guard := some (9, false) }) (v := ?_) rfl (by kernel_rfl) (by kernel_rfl) (by kernel_rfl) (fun _ _ _ h => h) (Or.inl ⟨by rfl, ?_⟩) hHeld ?_
            rotate_left 1
            · (intro w hSw; (try dsimp only at hSw); go_simp; (try with_reducible rfl))
            simp only [Act.put, List.setIfInBounds_toArray, List.set_cons_succ, List.set_cons_zero]
            refine wpAnyH_take (i := 12) (oi := { dst := some 25, op := Go.Op.indexAddr 39 (Go.Operand.tmp 23) (Go.Operand.tmp 24), type := 0, pos := "ref.go:80", after := #[{ on := 10, ground := Go.Ground.data }, { on := 11, ground := Go.Ground.data }, { on := 9, ground := Go.Ground.guard }], guard := some (9, false) }) (v := ?_) rfl (by kernel_rfl) (by kernel_rfl) (by kernel_rfl) (fun _ _ _ h => h) (Or.inl ⟨by rfl, ?_⟩) hHeld ?_
            rotate_left 1
            · (intro w hSw; (try dsimp only at hSw); go_simp; (try with_reducible rfl))
            simp only [Act.put, List.setIfInBounds_toArray, List.set_cons_succ, List.set_cons_zero]
            refine wpAnyH_take (i := 13) (oi := { dst := some 26, op := Go.Op.fieldAddr 42 (Go.Operand.tmp 25) 0, type := 0, pos := "ref.go:80", after := #[{ on := 12, ground := Go.Ground.data }, { on := 9, ground := Go.Ground.guard }], guard := some (9, false) }) (v := ?_) rfl (by kernel_rfl) (by kernel_rfl) (by kernel_rfl) (fun _ _ _ h => h) (Or.inl ⟨by rfl, ?_⟩) hHeld ?_
            rotate_left 1
            · (intro w hSw; (try dsimp only at hSw); go_simp; (try with_reducible rfl))
            simp only [Act.put, List.setIfInBounds_toArray, List.set_cons_succ, List.set_cons_zero]
            refine wpAnyH_take (i := 14) (oi := { dst := some 27, op := Go.Op.load 27 (Go.Operand.tmp 26), type := 27, pos := "ref.go:80", after := #[{ on := 13, ground := Go.Ground.data }, { on := 9, ground := Go.Ground.guard }], guard := some (9, false) }) (v := ?_) rfl (by kernel_rfl) (by kernel_rfl) (by kernel_rfl) (fun _ _ _ h => h) (Or.inl ⟨by rfl, ?_⟩) hHeld ?_
            rotate_left 1
            · (intro w hSw; (try dsimp only at hSw); go_simp; (try with_reducible rfl))
            simp only [Act.put, List.setIfInBounds_toArray, List.set_cons_succ, List.set_cons_zero]
            refine wpAnyH_take (i := 15) (oi := { dst := some 28, op := Go.Op.fieldAddr 42 (Go.Operand.tmp 4) 0, type := 0, pos := "ref.go:80", after := #[{ on := 9, ground := Go.Ground.guard }], guard := some (9, false) }) (v := ?_) rfl (by kernel_rfl) (by kernel_rfl) (by kernel_rfl) (fun _ _ _ h => h) (Or.inl ⟨by rfl, ?_⟩) hHeld ?_
            rotate_left 1
            · (intro w hSw; (try dsimp only at hSw); go_simp; (try with_reducible rfl))
            simp only [Act.put, List.setIfInBounds_toArray, List.set_cons_succ, List.set_cons_zero]
            refine wpAnyH_take (i := 16) (oi := { dst := some 29, op := Go.Op.load 27 (Go.Operand.tmp 28), type := 27, pos := "ref.go:80", after := #[{ on := 15, ground := Go.Ground.data }, { on := 9, ground := Go.Ground.guard }], guard := some (9, false) }) (v := ?_) rfl (by kernel_rfl) (by kernel_rfl) (by kernel_rfl) (fun _ _ _ h => h) (Or.inl ⟨by rfl, ?_⟩) hHeld ?_
            rotate_left 1
            · (intro w hSw; (try dsimp only at hSw); go_simp; (try with_reducible rfl))
            simp only [Act.put, List.setIfInBounds_toArray, List.set_cons_succ, List.set_cons_zero]
            refine wpAnyH_ready (rs := [17]) (by kernel_rfl) (by simp) ?_
            refine AllReadyH.cons (o := { dst := some 30, op := Go.Op.call { callee := Go.Callee.value (Go.Operand.func 26), args := #[Go.Operand.tmp 27, Go.Operand.tmp 29], argTypes := #[27, 27] }, type := 3, pos := "ref.go:80", after := #[{ on := 14, ground := Go.Ground.data }, { on := 16, ground := Go.Ground.data }, { on := 9, ground := Go.Ground.chain }, { on := 9, ground := Go.Ground.guard }], guard := some (9, false) }) rfl (fun K hK => ?_) AllReadyH.nil
            go_simp
            refine (refPosCmp l c v0 v1 wr.drew).mono ?_
            rintro e w2 ⟨rfl, hb2⟩
            have hst2 := Lib.hid (And.intro (hst1.out.1.step hb2) (And.intro (hst1.out.2.1.step hb2) (bthen4 hst1.out.2.2 hb2)))
            have hS2 := cstep6 hb2 hS1
            refine hK.out _ _ (hS2) (fun hHeld => ?_)
            clear hK K
            refine wpAnyH_take (i := 18) (oi := { dst := some 31, op := Go.Op.binOp Go.BinOp.lss 3 (Go.Operand.tmp 30) (Go.Operand.const (Go.Value.int Go.IntKind.i64 0)) 3, type := 4, pos := "ref.go:80", after := #[{ on := 17, ground := Go.Ground.data }, { on := 9, ground := Go.Ground.guard }], guard := some (9, false) }) (v := ?_) rfl (by kernel_rfl) (by kernel_rfl) (by kernel_rfl) (fun _ _ _ h => h) (Or.inl ⟨by rfl, ?_⟩) hHeld ?_
            rotate_left 1
            · (intro w hSw; (try dsimp only at hSw); go_simp; (try with_reducible rfl))
            simp only [Act.put, List.setIfInBounds_toArray, List.set_cons_succ, List.set_cons_zero]
            refine wpAnyH_take (i := 19) (oi := { dst := some 32, op := Go.Op.pick (Go.Operand.tmp 22) (Go.Operand.const (Go.Value.bool true)) (Go.Operand.tmp 31), type := 4, pos := "ref.go:80", after := #[{ on := 9, ground := Go.Ground.data }, { on := 18, ground := Go.Ground.data }, { on := 6, ground := Go.Ground.guard }], guard := some (6, true) }) (v := ?_) rfl (by kernel_rfl) (by kernel_rfl) (by kernel_rfl) (fun _ _ _ h => h) (Or.inl ⟨by rfl, ?_⟩) hHeld ?_
            rotate_left 1
            · (intro w hSw; (try dsimp only at hSw); go_simp; (try with_reducible rfl))
            simp only [Act.put, List.setIfInBounds_toArray, List.set_cons_succ, List.set_cons_zero]
            refine wpAnyH_take (i := 20) (oi := { dst := some 33, op := Go.Op.pick (Go.Operand.tmp 19) (Go.Operand.tmp 32) (Go.Operand.const (Go.Value.bool false)), type := 4, pos := "ref.go:80", after := #[{ on := 6, ground := Go.Ground.data }, { on := 19, ground := Go.Ground.data }], guard := none }) (v := ?_) rfl (by kernel_rfl) (by kernel_rfl) (by kernel_rfl) (fun _ _ _ h => h) (Or.inl ⟨by rfl, ?_⟩) hHeld ?_
            rotate_left 1
            · (intro w hSw; (try dsimp only at hSw); go_simp; (try with_reducible rfl))
            simp only [Act.put, List.setIfInBounds_toArray, List.set_cons_succ, List.set_cons_zero]
            refine wpAnyH_done (by kernel_rfl) ?_ _
            refine NoPanic.normal ?_
            go_wp2_with fail
            refine ⟨⟨i + 1, by omega, by go_num, by rw [hnext.out, HS.out], ?_⟩, by simp [intOf]; omega⟩
            rw [hnext.out, HS.out]
            exact hst2.out
    · obtain rfl : i = n := by omega
      have hlt' : ¬ (i : Int) < i := by omega
      have htk : r.take i = r := List.take_of_length_le (by have := hr.1; omega)
      rw [htk] at hst ⊢
      have p0 := hst.out.1
      have p1 := hst.out.2.1
      have c0 := p0.c0
      have c1 := p0.c1
      have c2 := p0.c2
      have f0 := p0.f0
      have f1 := p0.f1
      have f2 := p0.f2
      have d0 := p1.c0
      have d1 := p1.c1
      have d2 := p1.c2
      clear htk
      go_wp2_with fail
      have hfin := p0.all (firstV r).1 (firstV r).2.1 (firstV r).2.2.1
      have e0 := hfin.c0
      have e1 := hfin.c1
      have e2 := hfin.c2
      refine bodyPost_ret (v := .tuple #[.agg #[.int .i64 (firstV r).1, .int .i64 (firstV r).2.1, .int .i64 (firstV r).2.2.1], .bool (firstV r).2.2.2]) (by simp [results, Tryd.results20, go_sem, c0, c1, c2]) rfl ?_
      exact ⟨rfl, ((hst.out.2.2.setCell (Nat.le_refl _) _).setCell (Nat.le_refl _) _).setCell (Nat.le_refl _) _⟩
end

section
open Go.RowKit

theorem info_flt : (Tryd.prog.info? 42).map (fun i => (i.zero, i.size, i.bytes)) = some (some (.agg #[.int .i64 0, .int .i64 0, .int .i64 0]), 3, 24) := by kernel_rfl
theorem fcells_oneCell (r : List (Int × Int × Int)) : ∀ u ∈ fcells r, u.oneCell' = true := by
  induction r with
  | nil => intro u hu; simp [fcells] at hu
  | cons p r ih =>
    obtain ⟨l, c, e⟩ := p
    intro u hu
    simp only [fcells, List.mem_cons] at hu
    rcases hu with rfl | rfl | rfl | hu
    · rfl
    · rfl
    · rfl
    · exact ih u hu

/-- A row of the call's own, of faults; nothing that stood before has turned. -/
def GrowF (w : World) (v : Value) (r : List (Int × Int × Int)) (W : World) : Prop := W.ownsRow w.heap.size 42 3 v r.length (fcells r) ∧ Below w.heap.size w W
theorem GrowF.start (w : World) : GrowF w (.slice none 0 0) [] w := ⟨World.ownsRow_nil _ _ _ _, Below.refl _ _⟩
theorem wpList_pushF {ops : Array Oper} {rest : List Oper} {o : Oper} {a : Act} {Q : Exit → Act → World → Prop} (hgd : o.guard = none) (s x : Operand)
    (ho : o.op = .call { callee := .builtin .append, args := #[s, x], argTypes := #[39, 39] })
    (v : Value) (r : List (Int × Int × Int)) (l c e : Int) (w0 wr : World) (hs : a.eval s = v) (hg : GrowF w0 v r wr) (hx : a.eval x = .slice (some ⟨wr.heap.size, 0, none⟩) 1 1) (hlen : r.length ≤ 1000000000)
    (h : ∀ v' w1, GrowF w0 v' (r ++ [(l, c, e)]) w1 → wpList Tryd.prog ops Q rest (a.put o.dst v') w1) : wpList Tryd.prog ops Q (o :: rest) a (wr.alloc (.cells #[.int .i64 l, .int .i64 c, .int .i64 e] 42)) := by
  obtain ⟨i0, hi0, hz0, hz1, hz2⟩ := info_parts info_flt
  have hr : Reads (wr.alloc (.cells #[.int .i64 l, .int .i64 c, .int .i64 e] 42)) (wr.heap.size + 1) 3 (some ⟨wr.heap.size, 0, none⟩) 1 (fcells [(l, c, e)]) :=
    ⟨by simp [fcells], fun _ => ⟨_, rfl, by simp, fun j u hu => by
      match j with
      | 0 => simp [fcells] at hu; subst hu; simp [Addr.add]
      | 1 => simp [fcells] at hu; subst hu; simp [Addr.add]
      | 2 => simp [fcells] at hu; subst hu; simp [Addr.add]
      | j + 3 => simp [fcells] at hu⟩⟩
  have hsz := hg.2.size
  refine wpList_append_any _ hgd s x 39 ho w0.heap.size 42 i0 _ 3 24 Tryd.underlying39 hi0 hz0 hz1 hz2 rfl (by omega) v r.length (fcells r) hs (hg.1.alloc _) (wr.heap.size + 1) (some ⟨wr.heap.size, 0, none⟩) 1 1 (fcells [(l, c, e)]) hx hr (fcells_oneCell _)
    (by unfold maxLen; omega) (by omega) (by simp; omega) ?_
  intro v' w1 hown' hg' _
  refine h v' w1 ⟨by simpa [fcells_append] using hown', (hg.2.alloc hsz _).grown hg' (by simp; omega) (fun g hgk => (hg.1.lt g hgk).1)⟩
theorem GrowF.row {w W : World} {v : Value} {r : List (Int × Int × Int)} (h : GrowF w v r W) : ∃ A c, v = .slice A r.length c ∧ RowF W A r.length r := by
  rcases h.1.2 with ⟨hv, h0⟩ | ⟨g, cap, cur, hv, _⟩
  · have hr : r = [] := List.eq_nil_of_length_eq_zero h0
    subst hr
    exact ⟨none, 0, hv, rfl, Reads.none_⟩
  · exact ⟨some ⟨g, 0, none⟩, cap, hv, rfl, by have := h.1; rw [hv] at this; exact Reads.of_own this⟩
end

section
open Go.RowKit

set_option maxHeartbeats 2000000 in
theorem tells_long (hOf : PosOfC) (hPl : PosPlaceC) (hTx : PosTextC) (hFt : FaultTextC) (a1 a2 b1 b2 : Int) (A : Option Addr) (n c0 : Nat) (s : ByteArray) (w : World) (hL : Laid w) (hs : 40 < n ∨ 60 < s.size) (hm : s.size ≤ maxLen) (hn : n ≤ maxLen) :
    Calls Tryd.prog 4 #[.agg #[.int .i64 a1, .int .i64 a2], .agg #[.int .i64 b1, .int .i64 b2], .slice A n c0, .string s] w fun e w' => e = .returned (.bool true) ∧ Below w.heap.size w w' := by
  unfold maxLen at hm hn
  have hb0 := (below_new__ w (.cells #[.int .i64 a1, .int .i64 a2] 23)).alloc (Nat.le_of_lt (size_pos_ w _)) (.cells #[.int .i64 b1, .int .i64 b2] 23)
  have hq := works_pos hOf hPl hTx hFt ((w.alloc (.cells #[.int .i64 a1, .int .i64 a2] 23)).alloc (.cells #[.int .i64 b1, .int .i64 b2] 23)) (hL.below hb0).t
  clear hOf hPl hTx hFt
  by_cases h40 : 40 < n
  · have h4 : (40 : Int) < n := by omega
    go_enter Tryd.func4, Tryd.ntmps4
    go_wp2_with fail
    refine hq.mono ?_
    rintro e w1 ⟨rfl, hb1⟩
    go_wp2_with fail
    go_ret
    exact ⟨rfl, bthen4 hb0 hb1⟩
  · have h4 : ¬ (40 : Int) < n := by omega
    have h6 : (60 : Int) < s.size := by omega
    go_enter Tryd.func4, Tryd.ntmps4
    go_wp2_with fail
    refine hq.mono ?_
    rintro e w1 ⟨rfl, hb1⟩
    go_wp2_with fail
    go_ret
    exact ⟨rfl, bthen4 hb0 hb1⟩
end

section
open Go.RowKit

def PosFirstC : Prop := ∀ (A : Option Addr) (n c0 : Nat) (r : List (Int × Int × Int)) (w : World), RowF w A n r → n ≤ 1000 → (∀ f ∈ r, in64 f.1 ∧ in64 f.2.1 ∧ in64 f.2.2) →
  Calls Tryd.prog 19 #[.slice A n c0] w fun e w' => e = .returned (.tuple #[.agg #[.int .i64 (firstV r).1, .int .i64 (firstV r).2.1, .int .i64 (firstV r).2.2.1], .bool (firstV r).2.2.2]) ∧ Below w.heap.size w w'
theorem GrowF.step {w W W' : World} {v : Value} {r : List (Int × Int × Int)} (h : GrowF w v r W) (hb : Below W.heap.size W W') : GrowF w v r W' := by
  refine ⟨⟨h.1.1, ?_⟩, h.2.trans (hb.mono h.2.size)⟩
  rcases h.1.2 with h2 | ⟨g, cap, cur, hv, hg, hh, r⟩
  · exact Or.inl h2
  · exact Or.inr ⟨g, cap, cur, hv, hg, by rw [hb.block g (Array.getElem?_eq_some_iff.1 hh).1]; exact hh, r⟩
/-- What PosTells keeps: two positions in boxes, the row of faults, and the library's variables. -/
structure TK (w : World) (a1 a2 b1 b2 : Int) (A : Option Addr) (n : Nat) (r : List (Int × Int × Int)) (W : World) : Prop where
  a : PB W w.heap.size a1 a2
  b : PB W (w.heap.size + 1) b1 b2
  row : RowF W A n r
  laid : Laid W
  bel : Below w.heap.size w W
theorem TK.step {w W W' : World} {a1 a2 b1 b2 : Int} {A : Option Addr} {n : Nat} {r : List (Int × Int × Int)} (h : TK w a1 a2 b1 b2 A n r W) (hb : Below W.heap.size W W') : TK w a1 a2 b1 b2 A n r W' :=
  ⟨h.a.step hb, h.b.step hb, h.row.below2 hb, h.laid.below hb, h.bel.trans (hb.mono h.bel.size)⟩
theorem TK.new {w : World} (a1 a2 b1 b2 : Int) {A : Option Addr} {n : Nat} {r : List (Int × Int × Int)} (hL : Laid w) (hr : RowF w A n r) :
    TK w a1 a2 b1 b2 A n r ((w.alloc (.cells #[.int .i64 a1, .int .i64 a2] 23)).alloc (.cells #[.int .i64 b1, .int .i64 b2] 23)) := by
  have hb0 := (below_new__ w (.cells #[.int .i64 a1, .int .i64 a2] 23)).alloc (Nat.le_of_lt (size_pos_ w _)) (.cells #[.int .i64 b1, .int .i64 b2] 23)
  refine ⟨(PB.new w a1 a2 23).step (below_new_v _ _), ?_, hr.below2 hb0, hL.below hb0, hb0⟩
  have := PB.new (w.alloc (.cells #[.int .i64 a1, .int .i64 a2] 23)) b1 b2 23
  simpa using this
/-- And, in boxes, what is told of first faults, of a text's position, and of its fault. -/
structure TZ (w : World) (a1 a2 b1 b2 : Int) (A : Option Addr) (n : Nat) (r : List (Int × Int × Int)) (A3 : Option Addr) (g1 g2 g3 g4 g5 g6 : Nat) (f1 f2 f3 p1 p2 x1 x2 x3 : Int) (W : World) : Prop where
  t : TK w a1 a2 b1 b2 A n r W
  row : RowF W A3 n r
  f : FB3 W g1 f1 f2 f3
  g : FB3 W g2 f1 f2 f3
  p : PB W g3 p1 p2
  q : PB W g4 p1 p2
  x : FB3 W g5 x1 x2 x3
  y : FB3 W g6 x1 x2 x3
theorem TZ.step {w W W' : World} {a1 a2 b1 b2 : Int} {A : Option Addr} {n : Nat} {r : List (Int × Int × Int)} {A3 : Option Addr} {g1 g2 g3 g4 g5 g6 : Nat} {f1 f2 f3 p1 p2 x1 x2 x3 : Int}
    (h : TZ w a1 a2 b1 b2 A n r A3 g1 g2 g3 g4 g5 g6 f1 f2 f3 p1 p2 x1 x2 x3 W) (hb : Below W.heap.size W W') : TZ w a1 a2 b1 b2 A n r A3 g1 g2 g3 g4 g5 g6 f1 f2 f3 p1 p2 x1 x2 x3 W' :=
  ⟨h.t.step hb, h.row.below2 hb, h.f.step hb, h.g.step hb, h.p.step hb, h.q.step hb, h.x.step hb, h.y.step hb⟩
theorem TZ.cells {w W : World} {a1 a2 b1 b2 : Int} {A : Option Addr} {n : Nat} {r : List (Int × Int × Int)} {A3 : Option Addr} {g1 g2 g3 g4 g5 g6 : Nat} {f1 f2 f3 p1 p2 x1 x2 x3 : Int}
    (h : TZ w a1 a2 b1 b2 A n r A3 g1 g2 g3 g4 g5 g6 f1 f2 f3 p1 p2 x1 x2 x3 W) : (W.cell? ⟨w.heap.size, 0, none⟩ = some (.int .i64 a1) ∧ W.cell? ⟨w.heap.size, 1, none⟩ = some (.int .i64 a2)) ∧ (W.cell? ⟨w.heap.size + 1, 0, none⟩ = some (.int .i64 b1) ∧ W.cell? ⟨w.heap.size + 1, 1, none⟩ = some (.int .i64 b2)) ∧ (W.cell? ⟨g1, 0, none⟩ = some (.int .i64 f1) ∧ W.cell? ⟨g1, 1, none⟩ = some (.int .i64 f2) ∧ W.cell? ⟨g1, 2, none⟩ = some (.int .i64 f3)) ∧ (W.cell? ⟨g2, 0, none⟩ = some (.int .i64 f1) ∧ W.cell? ⟨g2, 1, none⟩ = some (.int .i64 f2) ∧ W.cell? ⟨g2, 2, none⟩ = some (.int .i64 f3)) ∧ (W.cell? ⟨g3, 0, none⟩ = some (.int .i64 p1) ∧ W.cell? ⟨g3, 1, none⟩ = some (.int .i64 p2)) ∧ (W.cell? ⟨g4, 0, none⟩ = some (.int .i64 p1) ∧ W.cell? ⟨g4, 1, none⟩ = some (.int .i64 p2)) ∧ (W.cell? ⟨g5, 0, none⟩ = some (.int .i64 x1) ∧ W.cell? ⟨g5, 1, none⟩ = some (.int .i64 x2) ∧ W.cell? ⟨g5, 2, none⟩ = some (.int .i64 x3)) ∧ (W.cell? ⟨g6, 0, none⟩ = some (.int .i64 x1) ∧ W.cell? ⟨g6, 1, none⟩ = some (.int .i64 x2) ∧ W.cell? ⟨g6, 2, none⟩ = some (.int .i64 x3)) :=
  ⟨⟨h.t.a.c0, h.t.a.c1⟩, ⟨h.t.b.c0, h.t.b.c1⟩, ⟨h.f.c0, h.f.c1, h.f.c2⟩, ⟨h.g.c0, h.g.c1, h.g.c2⟩, ⟨h.p.c0, h.p.c1⟩, ⟨h.q.c0, h.q.c1⟩, ⟨h.x.c0, h.x.c1, h.x.c2⟩, ⟨h.y.c0, h.y.c1, h.y.c2⟩⟩
end

section
open Go.RowKit

set_option maxRecDepth 100000 in
set_option maxHeartbeats 8000000 in
theorem tells_any (hFi : PosFirstC) (hOf : PosOfC) (hPl : PosPlaceC) (hCm : PosCmpC) (hTx : PosTextC) (hFt : FaultTextC) (hRd : PosReadC) (hRf : ReadFaultC) (a1 a2 b1 b2 : Int) (A : Option Addr) (n c0 : Nat) (r : List (Int × Int × Int)) (s : ByteArray) (w : World) (hL : Laid w) (hr : RowF w A n r)
    (hr64 : ∀ f ∈ r, in64 f.1 ∧ in64 f.2.1 ∧ in64 f.2.2) (hn : n ≤ 40) (hs : s.size ≤ 60) (ha1 : in64 a1) (ha2 : in64 a2) (hb1 : in64 b1) (hb2 : in64 b2) :
    Calls Tryd.prog 4 #[.agg #[.int .i64 a1, .int .i64 a2], .agg #[.int .i64 b1, .int .i64 b2], .slice A n c0, .string s] w fun e w' => e = .returned (.bool true) ∧ Below w.heap.size w w' := by
  have h4 : ¬ (40 : Int) < n := by omega
  have h6 : ¬ (60 : Int) < s.size := by omega
  have hT := TK.new a1 a2 b1 b2 hL hr
  have HOf := Lib.hid hOf
  have HPl := Lib.hid hPl
  have HCm := Lib.hid hCm
  have HTx := Lib.hid hTx
  have HFt := Lib.hid hFt
  have HRd := Lib.hid hRd
  have HRf := Lib.hid hRf
  have HFi := Lib.hid hFi
  have HR := Lib.hid hr64
  clear hOf hPl hCm hTx hFt hRd hRf hFi hL hr hr64
  go_enter Tryd.func4, Tryd.ntmps4
  go_wp2_with fail
  generalize (w.alloc (.cells #[.int .i64 a1, .int .i64 a2] 23)).alloc (.cells #[.int .i64 b1, .int .i64 b2] 23) = w1 at *
  have hlen := hT.row.1
  have hst0 : Hid (GrowF w1 (.slice none 0 0) [] w1 ∧ TK w a1 a2 b1 b2 A n r w1) := ⟨GrowF.start w1, hT⟩
  go_loopw [9, 10] (fun v u W => ∃ i : Nat, i ≤ n ∧ u = .int .i64 i ∧ Hid (GrowF w1 v (r.take i) W ∧ TK w a1 a2 b1 b2 A n r W)) (fun _ u _ => n - (intOf u).toNat)
  case atStart => exact ⟨0, by omega, rfl, hst0⟩
  case round =>
    obtain ⟨i, hi, rfl, hst⟩ := hrel
    by_cases hlt : i < n
    · obtain ⟨ad, l, c, e, rfl, hri, h0, h1, h2⟩ := hst.out.2.row.at_ hlt
      have hlt' : (i : Int) < n := by omega
      have h1' : wr.cell? ((ad.add (i * 3)).add 1) = some (.int .i64 c) := by rw [add_of_add]; exact h1
      have h2' : wr.cell? ((ad.add (i * 3)).add 2) = some (.int .i64 e) := by rw [add_of_add]; exact h2
      have h1'' : wr.cell? ⟨(ad.add (i * 3)).block, (ad.add (i * 3)).off + 1, none⟩ = some (.int .i64 c) := h1'
      have h2'' : wr.cell? ⟨(ad.add (i * 3)).block, (ad.add (i * 3)).off + 2, none⟩ = some (.int .i64 e) := h2'
      have htk : r.take (i + 1) = r.take i ++ [(l, c, e)] := by rw [List.take_add_one, hri]; rfl
      have hm64 := Lib.hid (show in64 l ∧ in64 c ∧ in64 e from HR.out _ (List.mem_of_getElem? hri))
      have HTK := Lib.hid htk
      clear htk hst0
      go_wp2_with fail
      refine (lawFault l c e _).mono ?_
      rintro e2 w2 ⟨rfl, hb2'⟩
      have hg2 := Lib.hid (And.intro (hst.out.1.step hb2') (hst.out.2.step hb2'))
      clear hst h0 h1 h2 h1' h2' h1'' h2''
      have HRI := Lib.hid hri
      clear hri
      go_wp2_with (first
          | (at_builtin
             refine wpList_pushF rfl (.tmp 39) (.tmp 45) rfl _ (r.take i) l c e w1 _ rfl hg2.out.1 rfl ?hl ?_
             case hl => (simp; omega)
             intro v' w3 hg3
             have hg3 := Lib.hid hg3))
      obtain ⟨A3, c3, hv3, hrow3⟩ := hg3.out.row
      have hl0 : (r.take i).length = i := by simp; omega
      have hl3 : (r.take i ++ [(l, c, e)]).length = i + 1 := by simp; omega
      have hget : (r.take i ++ [(l, c, e)])[i]? = some (l, c, e) := by rw [List.getElem?_append_right (by omega), hl0]; simp
      rw [hl3] at hv3 hrow3
      subst hv3
      have hT3 := (hT.step hg3.out.2).step (Below.refl w3.heap.size w3).drew
      have hrow4 := hrow3.below2 (Below.refl w3.heap.size w3).drew
      have hg4 := Lib.hid (hg3.out.step (Below.refl w3.heap.size w3).drew)
      obtain ⟨ad2, l2, c2, e2, hA2, hri2, p0, p1, p2⟩ := hT3.row.at_ hlt
      obtain rfl : ad = ad2 := Option.some.inj hA2
      obtain ⟨rfl, rfl, rfl⟩ : l = l2 ∧ c = c2 ∧ e = e2 := by
        have := HRI.out.symm.trans hri2
        simpa using this
      obtain ⟨ad5, l5, c5, e5, rfl, hri5, k0, k1, k2⟩ := hrow4.at_ (i := i) (by omega)
      obtain ⟨rfl, rfl, rfl⟩ : l = l5 ∧ c = c5 ∧ e = e5 := by
        have := hget.symm.trans hri5
        simpa using this
      have p1' : w3.drew.cell? ⟨(ad.add (i * 3)).block, (ad.add (i * 3)).off + 1, none⟩ = some (.int .i64 c) := (by rw [add_of_add]; exact p1 : w3.drew.cell? ((ad.add (i * 3)).add 1) = some (.int .i64 c))
      have p2' : w3.drew.cell? ⟨(ad.add (i * 3)).block, (ad.add (i * 3)).off + 2, none⟩ = some (.int .i64 e) := (by rw [add_of_add]; exact p2 : w3.drew.cell? ((ad.add (i * 3)).add 2) = some (.int .i64 e))
      have k1' : w3.drew.cell? ⟨(ad5.add (i * 3)).block, (ad5.add (i * 3)).off + 1, none⟩ = some (.int .i64 c) := (by rw [add_of_add]; exact k1 : w3.drew.cell? ((ad5.add (i * 3)).add 1) = some (.int .i64 c))
      have k2' : w3.drew.cell? ⟨(ad5.add (i * 3)).block, (ad5.add (i * 3)).off + 2, none⟩ = some (.int .i64 e) := (by rw [add_of_add]; exact k2 : w3.drew.cell? ((ad5.add (i * 3)).add 2) = some (.int .i64 e))
      have s0 := And.intro (And.intro p0 (And.intro p1' p2')) (And.intro k0 (And.intro k1' k2'))
      have HT3 := Lib.hid hT3
      have qt := HFt.out l c e w3.drew HT3.out.laid.t hm64.out.1 hm64.out.2.1 hm64.out.2.2
      have qr := fun w => refFaultText l c e hm64.out.1 hm64.out.2.1 hm64.out.2.2 w
      have hi1 : (i : Int) < (i : Int) + 1 := by omega
      clear hri2 hri5 hget hl0 hl3 hT3 p0 p1 p2 k0 k1 k2 p1' p2' k1' k2' hrow3 hrow4 hg3 hA2 hg2
      go_wp2_with fail
      go_region_held3 (fun w' => (w'.cell? (ad.add (i * 3)) = some (.int .i64 l) ∧ w'.cell? ⟨(ad.add (i * 3)).block, (ad.add (i * 3)).off + 1, none⟩ = some (.int .i64 c) ∧ w'.cell? ⟨(ad.add (i * 3)).block, (ad.add (i * 3)).off + 2, none⟩ = some (.int .i64 e)) ∧ w'.cell? (ad5.add (i * 3)) = some (.int .i64 l) ∧ w'.cell? ⟨(ad5.add (i * 3)).block, (ad5.add (i * 3)).off + 1, none⟩ = some (.int .i64 c) ∧ w'.cell? ⟨(ad5.add (i * 3)).block, (ad5.add (i * 3)).off + 2, none⟩ = some (.int .i64 e)) (first | exact s0 | exact cstep6 hb4 s0 | exact cstep6 hb5 (cstep6 hb4 s0))
        (first
          | (go_at_call 18
             with_reducible refine (qr w4).mono ?_
             rintro e5 w5 ⟨rfl, hb5⟩)
          | (go_at_call 17
             with_reducible refine qt.mono ?_
             rintro e4 w4 ⟨rfl, hb4⟩))
      go_wp2_with fail
      refine ⟨⟨i + 1, by omega, by go_num, ?_⟩, by simp [intOf]; omega⟩
      rw [HTK.out]
      exact ⟨(hg4.out.step hb4).step hb5, (HT3.out.step hb4).step hb5⟩
    · obtain rfl : i = n := by omega
      have hlt' : ¬ (i : Int) < i := by omega
      have htk : r.take i = r := List.take_of_length_le (by omega)
      rw [htk] at hst
      clear hst0 htk
      have hT := Lib.hid hst.out.2
      obtain ⟨A3, c3, hv3, hrow0⟩ := hst.out.1.row
      rw [hlen] at hv3 hrow0
      subst hv3
      have hrow := Lib.hid hrow0
      clear hst hrow0
      obtain ⟨⟨f1, f2, f3, fb⟩, HFr⟩ : ∃ F, Hid (firstV r = F) := ⟨_, Lib.hid rfl⟩
      obtain ⟨⟨p1, p2, pb⟩, HPr⟩ : ∃ F, Hid (readV s.data.toList = F) := ⟨_, Lib.hid rfl⟩
      obtain ⟨⟨x1, x2, x3, xb⟩, HXr⟩ : ∃ F, Hid (readF s.data.toList = F) := ⟨_, Lib.hid rfl⟩
      go_wp2_with fail
      have q1 := HFi.out A i c0 r wr hT.out.row (by omega) HR.out
      rw [HFr.out] at q1
      dsimp only at q1
      refine q1.mono ?_
      rintro e v0 ⟨rfl, hb⟩
      replace hT := Lib.hid ((hT.out.step hb).step (below_new_v v0 (.cells #[.int .i64 f1, .int .i64 f2, .int .i64 f3] 45)))
      replace hrow := Lib.hid ((hrow.out.below2 hb).below2 (below_new_v v0 (.cells #[.int .i64 f1, .int .i64 f2, .int .i64 f3] 45)))
      have hf := Lib.hid (FB3.new v0 f1 f2 f3 45)
      clear q1 hb
      go_wp2_with fail
      generalize v0.alloc (.cells #[.int .i64 f1, .int .i64 f2, .int .i64 f3] 45) = W0 at *
      generalize v0.heap.size = g1 at *
      have q1 := refFirst A3 i c3 r W0 hrow.out (by omega)
      rw [HFr.out] at q1
      dsimp only at q1
      refine q1.mono ?_
      rintro e v1 ⟨rfl, hb⟩
      replace hT := Lib.hid ((hT.out.step hb).step (below_new_v v1 (.cells #[.int .i64 f1, .int .i64 f2, .int .i64 f3] 42)))
      replace hrow := Lib.hid ((hrow.out.below2 hb).below2 (below_new_v v1 (.cells #[.int .i64 f1, .int .i64 f2, .int .i64 f3] 42)))
      replace hf := Lib.hid ((hf.out.step hb).step (below_new_v v1 (.cells #[.int .i64 f1, .int .i64 f2, .int .i64 f3] 42)))
      have hg := Lib.hid (FB3.new v1 f1 f2 f3 42)
      clear q1 hb
      go_wp2_with fail
      generalize v1.alloc (.cells #[.int .i64 f1, .int .i64 f2, .int .i64 f3] 42) = W1 at *
      generalize v1.heap.size = g2 at *
      have q1 := HRd.out s W1 hT.out.laid (by omega)
      rw [HPr.out] at q1
      dsimp only at q1
      refine q1.mono ?_
      rintro e v2 ⟨rfl, hb⟩
      replace hT := Lib.hid ((hT.out.step hb).step (below_new_v v2 (.cells #[.int .i64 p1, .int .i64 p2] 23)))
      replace hrow := Lib.hid ((hrow.out.below2 hb).below2 (below_new_v v2 (.cells #[.int .i64 p1, .int .i64 p2] 23)))
      replace hf := Lib.hid ((hf.out.step hb).step (below_new_v v2 (.cells #[.int .i64 p1, .int .i64 p2] 23)))
      replace hg := Lib.hid ((hg.out.step hb).step (below_new_v v2 (.cells #[.int .i64 p1, .int .i64 p2] 23)))
      have hp := Lib.hid (PB.new v2 p1 p2 23)
      clear q1 hb
      go_wp2_with fail
      generalize v2.alloc (.cells #[.int .i64 p1, .int .i64 p2] 23) = W2 at *
      generalize v2.heap.size = g3 at *
      have q1 := refRead s hs W2
      rw [HPr.out] at q1
      dsimp only at q1
      refine q1.mono ?_
      rintro e v3 ⟨rfl, hb⟩
      replace hT := Lib.hid ((hT.out.step hb).step (below_new_v v3 (.cells #[.int .i64 p1, .int .i64 p2] 27)))
      replace hrow := Lib.hid ((hrow.out.below2 hb).below2 (below_new_v v3 (.cells #[.int .i64 p1, .int .i64 p2] 27)))
      replace hf := Lib.hid ((hf.out.step hb).step (below_new_v v3 (.cells #[.int .i64 p1, .int .i64 p2] 27)))
      replace hg := Lib.hid ((hg.out.step hb).step (below_new_v v3 (.cells #[.int .i64 p1, .int .i64 p2] 27)))
      replace hp := Lib.hid ((hp.out.step hb).step (below_new_v v3 (.cells #[.int .i64 p1, .int .i64 p2] 27)))
      have hq := Lib.hid (PB.new v3 p1 p2 27)
      clear q1 hb
      go_wp2_with fail
      generalize v3.alloc (.cells #[.int .i64 p1, .int .i64 p2] 27) = W3 at *
      generalize v3.heap.size = g4 at *
      have q1 := HRf.out s W3 hT.out.laid (by omega)
      rw [HXr.out] at q1
      dsimp only at q1
      refine q1.mono ?_
      rintro e v4 ⟨rfl, hb⟩
      replace hT := Lib.hid ((hT.out.step hb).step (below_new_v v4 (.cells #[.int .i64 x1, .int .i64 x2, .int .i64 x3] 45)))
      replace hrow := Lib.hid ((hrow.out.below2 hb).below2 (below_new_v v4 (.cells #[.int .i64 x1, .int .i64 x2, .int .i64 x3] 45)))
      replace hf := Lib.hid ((hf.out.step hb).step (below_new_v v4 (.cells #[.int .i64 x1, .int .i64 x2, .int .i64 x3] 45)))
      replace hg := Lib.hid ((hg.out.step hb).step (below_new_v v4 (.cells #[.int .i64 x1, .int .i64 x2, .int .i64 x3] 45)))
      replace hp := Lib.hid ((hp.out.step hb).step (below_new_v v4 (.cells #[.int .i64 x1, .int .i64 x2, .int .i64 x3] 45)))
      replace hq := Lib.hid ((hq.out.step hb).step (below_new_v v4 (.cells #[.int .i64 x1, .int .i64 x2, .int .i64 x3] 45)))
      have hx := Lib.hid (FB3.new v4 x1 x2 x3 45)
      clear q1 hb
      go_wp2_with fail
      generalize v4.alloc (.cells #[.int .i64 x1, .int .i64 x2, .int .i64 x3] 45) = W4 at *
      generalize v4.heap.size = g5 at *
      have q1 := refReadFault s hs W4
      rw [HXr.out] at q1
      dsimp only at q1
      refine q1.mono ?_
      rintro e v5 ⟨rfl, hb⟩
      replace hT := Lib.hid ((hT.out.step hb).step (below_new_v v5 (.cells #[.int .i64 x1, .int .i64 x2, .int .i64 x3] 42)))
      replace hrow := Lib.hid ((hrow.out.below2 hb).below2 (below_new_v v5 (.cells #[.int .i64 x1, .int .i64 x2, .int .i64 x3] 42)))
      replace hf := Lib.hid ((hf.out.step hb).step (below_new_v v5 (.cells #[.int .i64 x1, .int .i64 x2, .int .i64 x3] 42)))
      replace hg := Lib.hid ((hg.out.step hb).step (below_new_v v5 (.cells #[.int .i64 x1, .int .i64 x2, .int .i64 x3] 42)))
      replace hp := Lib.hid ((hp.out.step hb).step (below_new_v v5 (.cells #[.int .i64 x1, .int .i64 x2, .int .i64 x3] 42)))
      replace hq := Lib.hid ((hq.out.step hb).step (below_new_v v5 (.cells #[.int .i64 x1, .int .i64 x2, .int .i64 x3] 42)))
      replace hx := Lib.hid ((hx.out.step hb).step (below_new_v v5 (.cells #[.int .i64 x1, .int .i64 x2, .int .i64 x3] 42)))
      have hy := Lib.hid (FB3.new v5 x1 x2 x3 42)
      clear q1 hb
      go_wp2_with fail
      generalize v5.alloc (.cells #[.int .i64 x1, .int .i64 x2, .int .i64 x3] 42) = W5 at *
      generalize v5.heap.size = g6 at *
      have hZ : Hid (TZ w a1 a2 b1 b2 A i r A3 g1 g2 g3 g4 g5 g6 f1 f2 f3 p1 p2 x1 x2 x3 W5) := ⟨hT.out, hrow.out, hf.out, hg.out, hp.out, hq.out, hx.out, hy.out⟩
      clear hT hrow hf hg hp hq hx hy
      go_loopw [23] (fun u W => ∃ j : Nat, j ≤ i ∧ u = .int .i64 j ∧ Hid (TZ w a1 a2 b1 b2 A i r A3 g1 g2 g3 g4 g5 g6 f1 f2 f3 p1 p2 x1 x2 x3 W)) (fun u _ => i - (intOf u).toNat)
      case atStart => exact ⟨0, by omega, rfl, hZ⟩
      case round =>
        obtain ⟨j, hj, rfl, hst2⟩ := hrel
        clear hZ
        by_cases hlt2 : j < i
        · have hZ := Lib.hid (hst2.out.step (Below.refl wr.heap.size wr).drew)
          clear hst2
          have hlt3 : (j : Int) < i := by omega
          obtain ⟨ad, l, c, e, rfl, hri, p0, p1_, p2_⟩ := hZ.out.t.row.at_ hlt2
          obtain ⟨ad5, l5, c5, e5, rfl, hri5, k0, k1, k2⟩ := hZ.out.row.at_ hlt2
          obtain ⟨rfl, rfl, rfl⟩ : l = l5 ∧ c = c5 ∧ e = e5 := by
            have := hri.symm.trans hri5
            simpa using this
          have s0 := And.intro (And.intro p0 (And.intro (by rw [add_of_add]; exact p1_ : wr.drew.cell? ((ad.add (j * 3)).add 1) = some (.int .i64 c)) (by rw [add_of_add]; exact p2_ : wr.drew.cell? ((ad.add (j * 3)).add 2) = some (.int .i64 e)))) (And.intro k0 (And.intro (by rw [add_of_add]; exact k1 : wr.drew.cell? ((ad5.add (j * 3)).add 1) = some (.int .i64 c)) (by rw [add_of_add]; exact k2 : wr.drew.cell? ((ad5.add (j * 3)).add 2) = some (.int .i64 e))))
          have qf := fun w => lawFault l c e w
          clear p0 p1_ p2_ k0 k1 k2 hri hri5
          go_wp2_with fail
          go_region_held3 (fun w' => (w'.cell? (ad.add (j * 3)) = some (.int .i64 l) ∧ w'.cell? ⟨(ad.add (j * 3)).block, (ad.add (j * 3)).off + 1, none⟩ = some (.int .i64 c) ∧ w'.cell? ⟨(ad.add (j * 3)).block, (ad.add (j * 3)).off + 2, none⟩ = some (.int .i64 e)) ∧ w'.cell? (ad5.add (j * 3)) = some (.int .i64 l) ∧ w'.cell? ⟨(ad5.add (j * 3)).block, (ad5.add (j * 3)).off + 1, none⟩ = some (.int .i64 c) ∧ w'.cell? ⟨(ad5.add (j * 3)).block, (ad5.add (j * 3)).off + 2, none⟩ = some (.int .i64 e)) (first | exact s0 | exact cstep6 hb4 s0)
            (first
              | (go_at_call 16
                 with_reducible refine (qf wr.drew).mono ?_
                 rintro e4 w4 ⟨rfl, hb4⟩))
          go_wp2_with fail
          refine ⟨⟨j + 1, by omega, by go_num, ?_⟩, by simp [intOf]; omega⟩
          exact hZ.out.step hb4
        · obtain rfl : j = i := by omega
          have hZ0 := Lib.hid (hst2.out.step (Below.refl wr.heap.size wr).drew)
          clear hst2
          have hlt3 : ¬ (j : Int) < j := by omega
          have qC := fun W => HCm.out a1 a2 b1 b2 W ha1 ha2 hb1 hb2
          have qX := fun W (h : LaidT W) => HTx.out a1 a2 W h ha1 ha2
          have qT := fun W => refPosText a1 a2 ha1 ha2 W
          have qW := fun W (h : LaidT W) => works_pos HOf.out HPl.out HTx.out HFt.out W h
          go_wp2_with fail
          go_region_held3 (fun w' => (w'.cell? ⟨w.heap.size, 0, none⟩ = some (.int .i64 a1) ∧ w'.cell? ⟨w.heap.size, 1, none⟩ = some (.int .i64 a2)) ∧ (w'.cell? ⟨w.heap.size + 1, 0, none⟩ = some (.int .i64 b1) ∧ w'.cell? ⟨w.heap.size + 1, 1, none⟩ = some (.int .i64 b2)) ∧ (w'.cell? ⟨g1, 0, none⟩ = some (.int .i64 f1) ∧ w'.cell? ⟨g1, 1, none⟩ = some (.int .i64 f2) ∧ w'.cell? ⟨g1, 2, none⟩ = some (.int .i64 f3)) ∧ (w'.cell? ⟨g2, 0, none⟩ = some (.int .i64 f1) ∧ w'.cell? ⟨g2, 1, none⟩ = some (.int .i64 f2) ∧ w'.cell? ⟨g2, 2, none⟩ = some (.int .i64 f3)) ∧ (w'.cell? ⟨g3, 0, none⟩ = some (.int .i64 p1) ∧ w'.cell? ⟨g3, 1, none⟩ = some (.int .i64 p2)) ∧ (w'.cell? ⟨g4, 0, none⟩ = some (.int .i64 p1) ∧ w'.cell? ⟨g4, 1, none⟩ = some (.int .i64 p2)) ∧ (w'.cell? ⟨g5, 0, none⟩ = some (.int .i64 x1) ∧ w'.cell? ⟨g5, 1, none⟩ = some (.int .i64 x2) ∧ w'.cell? ⟨g5, 2, none⟩ = some (.int .i64 x3)) ∧ (w'.cell? ⟨g6, 0, none⟩ = some (.int .i64 x1) ∧ w'.cell? ⟨g6, 1, none⟩ = some (.int .i64 x2) ∧ w'.cell? ⟨g6, 2, none⟩ = some (.int .i64 x3))) (first | exact TZ.cells hZ0.out | exact TZ.cells hZ1.out | exact TZ.cells hZ2.out | exact TZ.cells hZ3.out | exact TZ.cells hZ4.out | exact TZ.cells hZ5.out | exact TZ.cells hZ6.out | exact TZ.cells hZ7.out | exact TZ.cells hZ8.out | exact TZ.cells hZ9.out | exact TZ.cells hZ10.out | exact TZ.cells hZ11.out)
            (first
              | (go_at_call 25
                 with_reducible refine (qC wr.drew).mono ?_
                 rintro e0 z0 ⟨rfl, hy0⟩
                 have hZ1 := Lib.hid (hZ0.out.step hy0))
              | (go_at_call 12
                 with_reducible refine (lawRef a1 a2 z0).mono ?_
                 rintro e1 z1 ⟨rfl, hy1⟩
                 have hZ2 := Lib.hid (hZ1.out.step hy1))
              | (go_at_call 12
                 with_reducible refine (lawRef b1 b2 z1).mono ?_
                 rintro e2 z2 ⟨rfl, hy2⟩
                 have hZ3 := Lib.hid (hZ2.out.step hy2))
              | (go_at_call 26
                 with_reducible refine (refPosCmp a1 a2 b1 b2 z2).mono ?_
                 rintro e3 z3 ⟨rfl, hy3⟩
                 have hZ4 := Lib.hid (hZ3.out.step hy3))
              | (go_at_call 27
                 with_reducible refine (qX z3 hZ4.out.t.laid.t).mono ?_
                 rintro e4 z4 ⟨rfl, hy4⟩
                 have hZ5 := Lib.hid (hZ4.out.step hy4))
              | (go_at_call 12
                 with_reducible refine (lawRef a1 a2 z4).mono ?_
                 rintro e5 z5 ⟨rfl, hy5⟩
                 have hZ6 := Lib.hid (hZ5.out.step hy5))
              | (go_at_call 28
                 with_reducible refine (qT z5).mono ?_
                 rintro e6 z6 ⟨rfl, hy6⟩
                 have hZ7 := Lib.hid (hZ6.out.step hy6))
              | (go_at_call 16
                 with_reducible refine (lawFault f1 f2 f3 z6).mono ?_
                 rintro e7 z7 ⟨rfl, hy7⟩
                 have hZ8 := Lib.hid (hZ7.out.step hy7))
              | (go_at_call 12
                 with_reducible refine (lawRef p1 p2 z7).mono ?_
                 rintro e8 z8 ⟨rfl, hy8⟩
                 have hZ9 := Lib.hid (hZ8.out.step hy8))
              | (go_at_call 16
                 with_reducible refine (lawFault x1 x2 x3 z8).mono ?_
                 rintro e9 z9 ⟨rfl, hy9⟩
                 have hZ10 := Lib.hid (hZ9.out.step hy9))
              | (go_at_call 7
                 with_reducible refine (qW z9 hZ10.out.t.laid.t).mono ?_
                 rintro e10 z10 ⟨rfl, hy10⟩
                 have hZ11 := Lib.hid (hZ10.out.step hy10)))
          go_wp2_with fail
          go_ret
          exact ⟨rfl, hZ11.out.t.bel⟩
end
end Go.Proofs.YtijliimiojjjdaaDoor
