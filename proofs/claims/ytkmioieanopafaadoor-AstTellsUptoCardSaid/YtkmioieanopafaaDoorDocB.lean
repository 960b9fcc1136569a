/- The docs' copies: Program. -/
import Derived.Test.YtkmioieanopafaaDoorDocA
namespace Go.Proofs.YtkmioieanopafaaDoor
open Go.RowKit

set_option maxRecDepth 100000 in
set_option maxHeartbeats 16000000 in
theorem docsProgram (ds : List DV) (mn : List SV) (hs : sbk mn + dbk ds ≤ 4000000) (A1 : Option Addr) (c1 : Nat) (A2 : Option Addr) (c2 : Nat) (w : World) (hx : DR w A1 ds) (hy : SR w A2 mn) : Calls Tryd.prog 24 #[pval A1 ds.length c1 A2 mn.length c2] w fun r w' => ∃ B1 d1 B2 d2, r = .returned (pval B1 ds.length d1 B2 mn.length d2) ∧ DR (only w' (frB w.heap.size)) B1 ds ∧ SR (only w' (frB w.heap.size)) B2 mn ∧ Below w.heap.size w w' := by
  obtain ⟨n, hn⟩ : ∃ n, n = ds.length := ⟨_, rfl⟩
  obtain ⟨m, hm⟩ : ∃ m, m = mn.length := ⟨_, rfl⟩
  unfold pval
  have h0 := bnew5 w (.cells #[.slice A1 ds.length c1, .slice A2 mn.length c2] 41)
  have h1 := bnew5 (w.alloc (.cells #[.slice A1 ds.length c1, .slice A2 mn.length c2] 41)) (.cells #[.slice none 0 0, .slice none 0 0] 46)
  have ha := (Box.new w [.slice A1 ds.length c1, .slice A2 mn.length c2] 41).step h1
  have hb := Box.new (w.alloc (.cells #[.slice A1 ds.length c1, .slice A2 mn.length c2] 41)) [.slice none 0 0, .slice none 0 0] 46
  rw [show (w.alloc (.cells #[.slice A1 ds.length c1, .slice A2 mn.length c2] 41)).heap.size = w.heap.size + 1 by simp] at hb
  have hbw := bth5 h0 h1
  have hsz : ((w.alloc (.cells #[.slice A1 ds.length c1, .slice A2 mn.length c2] 41)).alloc (.cells #[.slice none 0 0, .slice none 0 0] 46)).heap.size = w.heap.size + 1 + 1 := by simp
  have hsb := ssz_bk mn
  have hlen : n ≤ 4000000 := by have := dsz_bk ds; have := dsz_len ds; omega
  have hdk : Hid (dbk ds ≤ 4000000) := by show _ ≤ _; omega
  have hfin : Hid (∀ Bl v W, GrowB kdD 89 Bl v (ds.take n) W → ∃ A' c', v = .slice A' n c' ∧ DR (only W (frB Bl)) A' ds) := fun Bl v W h => by
    rw [hn, List.take_length] at h
    obtain ⟨A', c', h1, h2⟩ := h.row
    exact ⟨A', c', by rw [hn]; exact h1, h2⟩
  have q1 := Lib.hid (fun W h => docsStmts (ssz mn) mn (Nat.le_refl _) (by omega) A2 c2 W h)
  unfold CopyS at q1
  rw [← hn] at h0 h1 ha hb hbw hsz ⊢
  rw [← hm] at h0 h1 ha hb hbw hsz q1 ⊢
  have HN := Lib.hid (And.intro hn (And.intro hm hlen))
  clear hn hm h0 h1 hsb hlen hs
  have hx2 := Lib.hid hx
  go_enter Tryd.func24, Tryd.ntmps24
  go_wp2_with fail
  generalize (w.alloc (.cells #[.slice A1 n c1, .slice A2 m c2] 41)).alloc (.cells #[.slice none 0 0, .slice none 0 0] 46) = W0 at *
  have hK := Lib.hid (And.intro ha (And.intro hb (And.intro hbw hsz)))
  have qA := q1.out W0 (hy.step hbw)
  have s0 := ha.two
  clear ha hb hbw hx hy q1
  refine qA.mono ?_
  rintro e w1 ⟨B2, d2, rfl, hx1, hb1⟩
  have HX := Lib.hid hx1
  have HB := Lib.hid hb1
  clear hx1 hb1 qA
  go_wp2_with fail
  have HPJ0 : Hid (∃ v, PJ w A1 n c1 A2 m c2 B2 d2 w1.heap.size (w1.heap.size + 1) mn v (ds.take 0) (w1.alloc (.cells #[.slice none 0 0, .slice B2 m d2] 46))) := by
    obtain ⟨k1, k2, k3, k4⟩ := hK.out
    have hbn := bnew5 w1 (.cells #[.slice none 0 0, .slice B2 m d2] 46)
    have k5 := HB.out.size
    refine ⟨.slice none 0 0, bth5 (bth5 k3 HB.out) hbn, (k1.step HB.out).step hbn, (k2.step HB.out).step hbn, Box.new w1 _ _, ?_, ?_, ?_⟩
    · exact (HX.out.sub (frM_new w1 _)).sub (frM_lo _ (by omega))
    · exact GrowB.start kdD _ _ _
    · exact ⟨by omega, by omega, by simp⟩
  obtain ⟨g3, hg3⟩ : ∃ g, g = w1.heap.size := ⟨_, rfl⟩
  rw [← hg3] at HPJ0
  rw [← hg3]
  obtain ⟨Bl, hBl⟩ : ∃ b, b = g3 + 1 := ⟨_, rfl⟩
  rw [← hBl] at HPJ0
  generalize w1.alloc (.cells #[.slice none 0 0, .slice B2 m d2] 46) = W1 at *
  clear hK HX HB hg3 hBl s0 hsz

  go_loopw [4] (fun u W => ∃ i : Nat, i ≤ n ∧ u = .int .i64 i ∧ Hid (∃ v, PJ w A1 n c1 A2 m c2 B2 d2 g3 Bl mn v (ds.take i) W)) (fun u _ => n - (intOf u).toNat)
  case atStart => exact ⟨0, by omega, rfl, HPJ0.out⟩
  case round =>
    clear HPJ0
    obtain ⟨i, hi, rfl, hst⟩ := hrel
    obtain ⟨v, HP⟩ := hst.out
    have HP := Lib.hid HP
    clear hst
    have s1 := HP.out.bp.two
    by_cases hlt : i < n
    · have hlt' : (i : Int) < n := by omega
      obtain ⟨ad, d, rfl, hd, P1, pc, P2, pd, e0, e1, e2, e3, e4, e5, e6, e7, e8, hx', hy'⟩ := (hx2.out.step HP.out.bel).el (i := i) (by rw [← HN.out.1]; exact hlt)
      have hsz := dbk_get hd
      have hHE : Hid (ds.take (i + 1) = ds.take i ++ [d]) := by show _ = _; rw [List.take_add_one, hd]; rfl
      have hli : Hid ((ds.take i).length = i) := by show _ = _; rw [List.length_take, ← HN.out.1]; omega
      have hdb := hdk.out
      cases d with
      | mk k x lo hi sz ps body l cc =>
      unfold dbk1 at hsz
      simp only at *
      have hV := bnew5 wr (.cells #[.int .i64 k, .string ⟨x.toArray⟩, .int .i64 lo, .int .i64 hi, .int .i64 sz, .slice P1 ps.length pc, .slice P2 body.length pd, .int .i64 l, .int .i64 cc] 84)
      have ha := Box.new wr [.int .i64 k, .string ⟨x.toArray⟩, .int .i64 lo, .int .i64 hi, .int .i64 sz, .slice P1 ps.length pc, .slice P2 body.length pd, .int .i64 l, .int .i64 cc] 84
      have hpl := pbk_len ps
      have hbl := ssz_bk body
      have hNM := copyNames (wr.alloc (.cells #[.int .i64 k, .string ⟨x.toArray⟩, .int .i64 lo, .int .i64 hi, .int .i64 sz, .slice P1 ps.length pc, .slice P2 body.length pd, .int .i64 l, .int .i64 cc] 84)).drew P1 ps pc (hx'.below hV.drew) (by omega)
      have q2' := Lib.hid (fun W h => docsStmts (ssz body) body (Nat.le_refl _) (by omega) P2 pd W h)
      have q4 := fun W => docsPos l cc W
      have hVd := hV.drew
      have hy2 := Lib.hid (hy'.step hVd)
      have HC : Hid (∀ W Q1 qc Q2 qd, RowS W Q1 ps.length ps → SR W Q2 body → DC W ⟨k, x, lo, hi, sz, ps, body, l, cc⟩ [.int .i64 k, .string ⟨x.toArray⟩, .int .i64 lo, .int .i64 hi, .int .i64 sz, .slice Q1 ps.length qc, .slice Q2 body.length qd, .int .i64 l, .int .i64 cc]) := fun W Q1 qc Q2 qd h1 h2 => ⟨Q1, qc, Q2, qd, rfl, h1, h2⟩
      have hn4 : i ≤ 4000000 := by have := HN.out.2.2; omega
      clear hd hx' hy' hsz hV hpl hbl hdb
      unfold CopyS at q2'
      generalize ps.length = pn at *
      generalize body.length = pm at *
      generalize (⟨x.toArray⟩ : ByteArray) = xs at *
      go_wp2_with fail
      generalize hVV : wr.alloc (.cells #[.int .i64 k, .string xs, .int .i64 lo, .int .i64 hi, .int .i64 sz, .slice P1 pn pc, .slice P2 pm pd, .int .i64 l, .int .i64 cc] 84) = V at *
      have ha0 := Lib.hid ha.drew
      have hVd := Lib.hid hVd
      have HP0 := Lib.hid (HP.out.bo.step hVd.out)
      have stK : ∀ {W : World} {bb : List Value}, Box W wr.heap.size [.int .i64 k, .string xs, .int .i64 lo, .int .i64 hi, .int .i64 sz, .slice P1 pn pc, .slice P2 pm pd, .int .i64 l, .int .i64 cc] → Box W g3 (v :: bb) → ((fun w' => w'.cell? ⟨wr.heap.size, 0, none⟩ = some (.int .i64 k) ∧ w'.cell? ⟨wr.heap.size, 1, none⟩ = some (.string xs) ∧ w'.cell? ⟨wr.heap.size, 2, none⟩ = some (.int .i64 lo) ∧ w'.cell? ⟨wr.heap.size, 3, none⟩ = some (.int .i64 hi) ∧ w'.cell? ⟨wr.heap.size, 4, none⟩ = some (.int .i64 sz) ∧ w'.cell? ⟨wr.heap.size, 5, none⟩ = some (.slice P1 pn pc) ∧ w'.cell? ⟨wr.heap.size, 6, none⟩ = some (.slice P2 pm pd) ∧ w'.cell? ⟨wr.heap.size, 7, none⟩ = some (.int .i64 l) ∧ w'.cell? ⟨wr.heap.size, 8, none⟩ = some (.int .i64 cc) ∧ w'.cell? ⟨g3, 0, none⟩ = some v) W) := fun {W bb} h1 h2 => ⟨(h1 0 _ rfl).1, (h1 1 _ rfl).1, (h1 2 _ rfl).1, (h1 3 _ rfl).1, (h1 4 _ rfl).1, (h1 5 _ rfl).1, (h1 6 _ rfl).1, (h1 7 _ rfl).1, (h1 8 _ rfl).1, (h2 0 _ rfl).1⟩
      have K0 := Lib.hid (stK ha0.out HP0.out)
      obtain ⟨Q1, qc, w1, hrunN, hr1, hbN, -⟩ := hNM
      have hr1 := Lib.hid (hr1.sub (frB_mono hVd.out.size))
      have hv1 := Lib.hid (hVd.out.trans (hbN.mono hVd.out.size))
      have ha1 := Lib.hid (ha0.out.step hbN)
      have HP1 := Lib.hid (HP0.out.step hbN)
      have K1 := Lib.hid (stK ha1.out HP1.out)
      have q2 := q2'.out w1 (hy2.out.step hbN)
      clear ha hbN s1 e0 e1 e2 e3 e4 e5 e6 e7 e8 hVV
      refine wp_region_C 24 (fun w' => w'.cell? ⟨wr.heap.size, 0, none⟩ = some (.int .i64 k) ∧ w'.cell? ⟨wr.heap.size, 1, none⟩ = some (.string xs) ∧ w'.cell? ⟨wr.heap.size, 2, none⟩ = some (.int .i64 lo) ∧ w'.cell? ⟨wr.heap.size, 3, none⟩ = some (.int .i64 hi) ∧ w'.cell? ⟨wr.heap.size, 4, none⟩ = some (.int .i64 sz) ∧ w'.cell? ⟨wr.heap.size, 5, none⟩ = some (.slice P1 pn pc) ∧ w'.cell? ⟨wr.heap.size, 6, none⟩ = some (.slice P2 pm pd) ∧ w'.cell? ⟨wr.heap.size, 7, none⟩ = some (.int .i64 l) ∧ w'.cell? ⟨wr.heap.size, 8, none⟩ = some (.int .i64 cc) ∧ w'.cell? ⟨g3, 0, none⟩ = some v) (by kernel_rfl) ?_
      refine wpAnyC_any (i := 0) (oi := { dst := some 23, op := Go.Op.fieldAddr 46 (Go.Operand.tmp 3) 0, type := 0, pos := "asts.go:42", after := #[], guard := none }) (v := ?_) rfl (by kernel_rfl) (by kernel_rfl) (by kernel_rfl) (by kernel_rfl) (fun _ _ _ h => h) (Or.inl ⟨by rfl, ?_⟩) (fun _ => K0.out) ?_
      rotate_left 1
      · (intro w _; go_simp; (try with_reducible rfl))
      simp only [Act.put, List.setIfInBounds_toArray, List.set_cons_succ, List.set_cons_zero]
      refine wpAnyC_take (i := 1) [24] (oi := { dst := some 24, op := Go.Op.load 43 (Go.Operand.tmp 23), type := 43, pos := "asts.go:42", after := #[{ on := 0, ground := Go.Ground.data }], guard := none }) (v := ?_) rfl (by kernel_rfl) (by kernel_rfl) (by kernel_rfl) (by kernel_rfl) (by kernel_rfl) (by kernel_rfl) (by kernel_rfl) (fun _ _ _ h => h) (Or.inl ⟨by rfl, ?_⟩) (fun _ => K0.out) ?_
      rotate_left 1
      · (intro w hSw; (try dsimp only at hSw); go_simp; (try with_reducible rfl))
      simp only [Act.put, List.setIfInBounds_toArray, List.set_cons_succ, List.set_cons_zero]
      refine wpAnyC_any (i := 2) (oi := { dst := some 25, op := Go.Op.fieldAddr 84 (Go.Operand.tmp 5) 0, type := 0, pos := "asts.go:42", after := #[], guard := none }) (v := ?_) rfl (by kernel_rfl) (by kernel_rfl) (by kernel_rfl) (by kernel_rfl) (fun _ _ _ h => h) (Or.inl ⟨by rfl, ?_⟩) (fun _ => K0.out) ?_
      rotate_left 1
      · (intro w _; go_simp; (try with_reducible rfl))
      simp only [Act.put, List.setIfInBounds_toArray, List.set_cons_succ, List.set_cons_zero]
      refine wpAnyC_take (i := 3) [22, 23, 24] (oi := { dst := some 26, op := Go.Op.load 82 (Go.Operand.tmp 25), type := 82, pos := "asts.go:42", after := #[{ on := 2, ground := Go.Ground.data }], guard := none }) (v := ?_) rfl (by kernel_rfl) (by kernel_rfl) (by kernel_rfl) (by kernel_rfl) (by kernel_rfl) (by kernel_rfl) (by kernel_rfl) (fun _ _ _ h => h) (Or.inl ⟨by rfl, ?_⟩) (fun _ => K0.out) ?_
      rotate_left 1
      · (intro w hSw; (try dsimp only at hSw); go_simp; (try with_reducible rfl))
      simp only [Act.put, List.setIfInBounds_toArray, List.set_cons_succ, List.set_cons_zero]
      refine wpAnyC_any (i := 4) (oi := { dst := some 27, op := Go.Op.fieldAddr 84 (Go.Operand.tmp 5) 1, type := 0, pos := "asts.go:42", after := #[], guard := none }) (v := ?_) rfl (by kernel_rfl) (by kernel_rfl) (by kernel_rfl) (by kernel_rfl) (fun _ _ _ h => h) (Or.inl ⟨by rfl, ?_⟩) (fun _ => K0.out) ?_
      rotate_left 1
      · (intro w _; go_simp; (try with_reducible rfl))
      simp only [Act.put, List.setIfInBounds_toArray, List.set_cons_succ, List.set_cons_zero]
      refine wpAnyC_take (i := 5) [22, 23, 24] (oi := { dst := some 28, op := Go.Op.load 9 (Go.Operand.tmp 27), type := 9, pos := "asts.go:42", after := #[{ on := 4, ground := Go.Ground.data }], guard := none }) (v := ?_) rfl (by kernel_rfl) (by kernel_rfl) (by kernel_rfl) (by kernel_rfl) (by kernel_rfl) (by kernel_rfl) (by kernel_rfl) (fun _ _ _ h => h) (Or.inl ⟨by rfl, ?_⟩) (fun _ => K0.out) ?_
      rotate_left 1
      · (intro w hSw; (try dsimp only at hSw); go_simp; (try with_reducible rfl))
      simp only [Act.put, List.setIfInBounds_toArray, List.set_cons_succ, List.set_cons_zero]
      refine wpAnyC_any (i := 6) (oi := { dst := some 29, op := Go.Op.fieldAddr 84 (Go.Operand.tmp 5) 2, type := 0, pos := "asts.go:42", after := #[], guard := none }) (v := ?_) rfl (by kernel_rfl) (by kernel_rfl) (by kernel_rfl) (by kernel_rfl) (fun _ _ _ h => h) (Or.inl ⟨by rfl, ?_⟩) (fun _ => K0.out) ?_
      rotate_left 1
      · (intro w _; go_simp; (try with_reducible rfl))
      simp only [Act.put, List.setIfInBounds_toArray, List.set_cons_succ, List.set_cons_zero]
      refine wpAnyC_take (i := 7) [22, 23, 24] (oi := { dst := some 30, op := Go.Op.load 2 (Go.Operand.tmp 29), type := 2, pos := "asts.go:42", after := #[{ on := 6, ground := Go.Ground.data }], guard := none }) (v := ?_) rfl (by kernel_rfl) (by kernel_rfl) (by kernel_rfl) (by kernel_rfl) (by kernel_rfl) (by kernel_rfl) (by kernel_rfl) (fun _ _ _ h => h) (Or.inl ⟨by rfl, ?_⟩) (fun _ => K0.out) ?_
      rotate_left 1
      · (intro w hSw; (try dsimp only at hSw); go_simp; (try with_reducible rfl))
      simp only [Act.put, List.setIfInBounds_toArray, List.set_cons_succ, List.set_cons_zero]
      refine wpAnyC_any (i := 8) (oi := { dst := some 31, op := Go.Op.fieldAddr 84 (Go.Operand.tmp 5) 3, type := 0, pos := "asts.go:42", after := #[], guard := none }) (v := ?_) rfl (by kernel_rfl) (by kernel_rfl) (by kernel_rfl) (by kernel_rfl) (fun _ _ _ h => h) (Or.inl ⟨by rfl, ?_⟩) (fun _ => K0.out) ?_
      rotate_left 1
      · (intro w _; go_simp; (try with_reducible rfl))
      simp only [Act.put, List.setIfInBounds_toArray, List.set_cons_succ, List.set_cons_zero]
      refine wpAnyC_take (i := 9) [22, 23, 24] (oi := { dst := some 32, op := Go.Op.load 2 (Go.Operand.tmp 31), type := 2, pos := "asts.go:42", after := #[{ on := 8, ground := Go.Ground.data }], guard := none }) (v := ?_) rfl (by kernel_rfl) (by kernel_rfl) (by kernel_rfl) (by kernel_rfl) (by kernel_rfl) (by kernel_rfl) (by kernel_rfl) (fun _ _ _ h => h) (Or.inl ⟨by rfl, ?_⟩) (fun _ => K0.out) ?_
      rotate_left 1
      · (intro w hSw; (try dsimp only at hSw); go_simp; (try with_reducible rfl))
      simp only [Act.put, List.setIfInBounds_toArray, List.set_cons_succ, List.set_cons_zero]
      refine wpAnyC_any (i := 10) (oi := { dst := some 33, op := Go.Op.fieldAddr 84 (Go.Operand.tmp 5) 4, type := 0, pos := "asts.go:42", after := #[], guard := none }) (v := ?_) rfl (by kernel_rfl) (by kernel_rfl) (by kernel_rfl) (by kernel_rfl) (fun _ _ _ h => h) (Or.inl ⟨by rfl, ?_⟩) (fun _ => K0.out) ?_
      rotate_left 1
      · (intro w _; go_simp; (try with_reducible rfl))
      simp only [Act.put, List.setIfInBounds_toArray, List.set_cons_succ, List.set_cons_zero]
      refine wpAnyC_take (i := 11) [22, 23, 24] (oi := { dst := some 34, op := Go.Op.load 2 (Go.Operand.tmp 33), type := 2, pos := "asts.go:42", after := #[{ on := 10, ground := Go.Ground.data }], guard := none }) (v := ?_) rfl (by kernel_rfl) (by kernel_rfl) (by kernel_rfl) (by kernel_rfl) (by kernel_rfl) (by kernel_rfl) (by kernel_rfl) (fun _ _ _ h => h) (Or.inl ⟨by rfl, ?_⟩) (fun _ => K0.out) ?_
      rotate_left 1
      · (intro w hSw; (try dsimp only at hSw); go_simp; (try with_reducible rfl))
      simp only [Act.put, List.setIfInBounds_toArray, List.set_cons_succ, List.set_cons_zero]
      refine wpAnyC_any (i := 12) (oi := { dst := some 35, op := Go.Op.move (Go.Operand.tmp 6), type := 28, pos := "asts.go:42", after := #[], guard := none }) (v := ?_) rfl (by kernel_rfl) (by kernel_rfl) (by kernel_rfl) (by kernel_rfl) (fun _ _ _ h => h) (Or.inl ⟨by rfl, ?_⟩) (fun _ => K0.out) ?_
      rotate_left 1
      · (intro w _; go_simp; (try with_reducible rfl))
      simp only [Act.put, List.setIfInBounds_toArray, List.set_cons_succ, List.set_cons_zero]
      refine wpAnyC_any (i := 13) (oi := { dst := some 36, op := Go.Op.fieldAddr 84 (Go.Operand.tmp 5) 5, type := 0, pos := "asts.go:42", after := #[], guard := none }) (v := ?_) rfl (by kernel_rfl) (by kernel_rfl) (by kernel_rfl) (by kernel_rfl) (fun _ _ _ h => h) (Or.inl ⟨by rfl, ?_⟩) (fun _ => K0.out) ?_
      rotate_left 1
      · (intro w _; go_simp; (try with_reducible rfl))
      simp only [Act.put, List.setIfInBounds_toArray, List.set_cons_succ, List.set_cons_zero]
      refine wpAnyC_take (i := 14) [15, 18, 21, 24] (oi := { dst := some 37, op := Go.Op.load 28 (Go.Operand.tmp 36), type := 28, pos := "asts.go:42", after := #[{ on := 13, ground := Go.Ground.data }], guard := none }) (v := ?_) rfl (by kernel_rfl) (by kernel_rfl) (by kernel_rfl) (by kernel_rfl) (by kernel_rfl) (by kernel_rfl) (by kernel_rfl) (fun _ _ _ h => h) (Or.inl ⟨by rfl, ?_⟩) (fun _ => K0.out) ?_
      rotate_left 1
      · (intro w hSw; (try dsimp only at hSw); go_simp; (try with_reducible rfl))
      simp only [Act.put, List.setIfInBounds_toArray, List.set_cons_succ, List.set_cons_zero]
      refine wpAnyC_any (i := 16) (oi := { dst := some 39, op := Go.Op.fieldAddr 84 (Go.Operand.tmp 5) 6, type := 0, pos := "asts.go:42", after := #[], guard := none }) (v := ?_) rfl (by kernel_rfl) (by kernel_rfl) (by kernel_rfl) (by kernel_rfl) (fun _ _ _ h => h) (Or.inl ⟨by rfl, ?_⟩) (fun _ => K0.out) ?_
      rotate_left 1
      · (intro w _; go_simp; (try with_reducible rfl))
      simp only [Act.put, List.setIfInBounds_toArray, List.set_cons_succ, List.set_cons_zero]
      refine wpAnyC_take (i := 17) [18, 21, 24] (oi := { dst := some 40, op := Go.Op.load 39 (Go.Operand.tmp 39), type := 39, pos := "asts.go:42", after := #[{ on := 16, ground := Go.Ground.data }], guard := none }) (v := ?_) rfl (by kernel_rfl) (by kernel_rfl) (by kernel_rfl) (by kernel_rfl) (by kernel_rfl) (by kernel_rfl) (by kernel_rfl) (fun _ _ _ h => h) (Or.inl ⟨by rfl, ?_⟩) (fun _ => K0.out) ?_
      rotate_left 1
      · (intro w hSw; (try dsimp only at hSw); go_simp; (try with_reducible rfl))
      simp only [Act.put, List.setIfInBounds_toArray, List.set_cons_succ, List.set_cons_zero]
      refine wpAnyC_any (i := 19) (oi := { dst := some 42, op := Go.Op.fieldAddr 84 (Go.Operand.tmp 5) 7, type := 0, pos := "asts.go:42", after := #[], guard := none }) (v := ?_) rfl (by kernel_rfl) (by kernel_rfl) (by kernel_rfl) (by kernel_rfl) (fun _ _ _ h => h) (Or.inl ⟨by rfl, ?_⟩) (fun _ => K0.out) ?_
      rotate_left 1
      · (intro w _; go_simp; (try with_reducible rfl))
      simp only [Act.put, List.setIfInBounds_toArray, List.set_cons_succ, List.set_cons_zero]
      refine wpAnyC_take (i := 20) [21, 24] (oi := { dst := some 43, op := Go.Op.load 60 (Go.Operand.tmp 42), type := 60, pos := "asts.go:42", after := #[{ on := 19, ground := Go.Ground.data }], guard := none }) (v := ?_) rfl (by kernel_rfl) (by kernel_rfl) (by kernel_rfl) (by kernel_rfl) (by kernel_rfl) (by kernel_rfl) (by kernel_rfl) (fun _ _ _ h => h) (Or.inl ⟨by rfl, ?_⟩) (fun _ => K0.out) ?_
      rotate_left 1
      · (intro w hSw; (try dsimp only at hSw); go_simp; (try with_reducible rfl))
      simp only [Act.put, List.setIfInBounds_toArray, List.set_cons_succ, List.set_cons_zero]
      refine wpAnyC_ready (rs := [15]) (by kernel_rfl) (by simp) ?_
      refine AllReadyC.cons (o := { dst := some 38, op := Go.Op.call { callee := Go.Callee.builtin Go.Builtin.append, args := #[Go.Operand.tmp 35, Go.Operand.tmp 37], argTypes := #[28, 28] }, type := 28, pos := "asts.go:42", after := #[{ on := 12, ground := Go.Ground.data }, { on := 14, ground := Go.Ground.data }], guard := none }) rfl (fun K hK => ?_) AllReadyC.nil
      refine step_append_run rfl (.tmp 35) (.tmp 37) _ (by rfl) _ _ _ w1 (by rfl) (by rfl) hrunN ?_
      refine hK.out _ _ (fun _ => K1.out) ?_
      clear hK K
      try simp only [Act.put, List.setIfInBounds_toArray, List.set_cons_succ, List.set_cons_zero]
      refine wpAnyC_ready (rs := [18]) (by kernel_rfl) (by simp) ?_
      refine AllReadyC.cons (o := { dst := some 41, op := Go.Op.call { callee := Go.Callee.value (Go.Operand.func 50), args := #[Go.Operand.tmp 40], argTypes := #[39] }, type := 44, pos := "asts.go:42", after := #[{ on := 17, ground := Go.Ground.data }, { on := 15, ground := Go.Ground.chain }], guard := none }) rfl (fun K hK => ?_) AllReadyC.nil
      go_simp
      refine q2.mono ?_
      rintro e w2 ⟨Q2, qd, rfl, hs2, hb2⟩
      have ha2 := Lib.hid (ha1.out.step hb2)
      have hv2 := Lib.hid (hv1.out.trans (hb2.mono hv1.out.size))
      have HP2 := Lib.hid (HP1.out.step hb2)
      have hr2 := Lib.hid (hr1.out.sub (fr_below _ hb2))
      have hs2 := Lib.hid (hs2.sub (frB_mono hv1.out.size))
      have K2 := Lib.hid (stK ha2.out HP2.out)
      refine hK.out _ _ (fun _ => K2.out) ?_
      clear hK K
      try simp only [Act.put, List.setIfInBounds_toArray, List.set_cons_succ, List.set_cons_zero]
      refine wpAnyC_ready (rs := [21]) (by kernel_rfl) (by simp) ?_
      refine AllReadyC.cons (o := { dst := some 44, op := Go.Op.call { callee := Go.Callee.value (Go.Operand.func 51), args := #[Go.Operand.tmp 43], argTypes := #[60] }, type := 70, pos := "asts.go:42", after := #[{ on := 20, ground := Go.Ground.data }, { on := 18, ground := Go.Ground.chain }], guard := none }) rfl (fun K hK => ?_) AllReadyC.nil
      go_simp
      refine (q4 w2).mono ?_
      rintro e w3 ⟨rfl, hb3⟩
      have ha3 := Lib.hid (ha2.out.step hb3)
      have hv3 := Lib.hid (hv2.out.trans (hb3.mono hv2.out.size))
      have HP3 := Lib.hid (HP2.out.step hb3)
      have K3 := Lib.hid (stK ha3.out HP3.out)
      obtain ⟨g, cap, w4, hrun4, hbo4, hpj4⟩ := HP.out.pushed hv3.out (HC.out _ Q1 qc Q2 qd (hr2.out.sub (fr_below _ hb3)) (hs2.out.sub (fr_below _ hb3))) (by rw [hli.out]; omega)
      rw [hli.out] at hrun4 hpj4
      have hpj4 := Lib.hid hpj4
      have K4 := Lib.hid (stK (ha3.out.step (bnew5 w3 (.cells #[.int .i64 k, .string xs, .int .i64 lo, .int .i64 hi, .int .i64 sz, .slice Q1 pn qc, .slice Q2 pm qd, .int .i64 l, .int .i64 cc] 89))) (HP3.out.step (bnew5 w3 (.cells #[.int .i64 k, .string xs, .int .i64 lo, .int .i64 hi, .int .i64 sz, .slice Q1 pn qc, .slice Q2 pm qd, .int .i64 l, .int .i64 cc] 89))))
      have j1 := (hbo4 0 _ rfl).1
      have j2 := (hbo4 0 _ rfl).2
      refine hK.out _ _ (fun _ => K3.out) ?_
      clear hK K
      try simp only [Act.put, List.setIfInBounds_toArray, List.set_cons_succ, List.set_cons_zero]
      refine wpAnyC_any (i := 22) (oi := { dst := some 45, op := Go.Op.build 89 #[(0, Go.Operand.tmp 26), (1, Go.Operand.tmp 28), (2, Go.Operand.tmp 30), (3, Go.Operand.tmp 32), (4, Go.Operand.tmp 34), (5, Go.Operand.tmp 38), (6, Go.Operand.tmp 41), (7, Go.Operand.tmp 44)], type := 89, pos := "asts.go:42", after := #[{ on := 3, ground := Go.Ground.data }, { on := 5, ground := Go.Ground.data }, { on := 7, ground := Go.Ground.data }, { on := 9, ground := Go.Ground.data }, { on := 11, ground := Go.Ground.data }, { on := 15, ground := Go.Ground.data }, { on := 18, ground := Go.Ground.data }, { on := 21, ground := Go.Ground.data }], guard := none }) (v := ?_) rfl (by kernel_rfl) (by kernel_rfl) (by kernel_rfl) (by kernel_rfl) (fun _ _ _ h => h) (Or.inl ⟨by rfl, ?_⟩) (fun _ => K3.out) ?_
      rotate_left 1
      · (intro w _; go_simp; (try with_reducible rfl))
      simp only [Act.put, List.setIfInBounds_toArray, List.set_cons_succ, List.set_cons_zero]
      refine wpAnyC_ready (rs := [23]) (by kernel_rfl) (by simp) ?_
      refine AllReadyC.cons (o := { dst := some 46, op := Go.Op.buildSlice 43 1 #[(0, Go.Operand.tmp 45)], type := 43, pos := "asts.go:42", after := #[{ on := 22, ground := Go.Ground.data }], guard := none }) rfl (fun K hK => ?_) AllReadyC.nil
      go_simp
      refine hK.out _ _ (fun _ => K4.out) ?_
      clear hK K
      try simp only [Act.put, List.setIfInBounds_toArray, List.set_cons_succ, List.set_cons_zero]
      refine wpAnyC_ready (rs := [24]) (by kernel_rfl) (by simp) ?_
      refine AllReadyC.cons (o := { dst := some 47, op := Go.Op.call { callee := Go.Callee.builtin Go.Builtin.append, args := #[Go.Operand.tmp 24, Go.Operand.tmp 46], argTypes := #[43, 43] }, type := 43, pos := "asts.go:42", after := #[{ on := 1, ground := Go.Ground.data }, { on := 23, ground := Go.Ground.data }, { on := 21, ground := Go.Ground.chain }], guard := none }) rfl (fun K hK => ?_) AllReadyC.nil
      refine step_append_run rfl (.tmp 24) (.tmp 46) _ (by rfl) _ _ _ w4 (by rfl) (by rfl) hrun4 ?_
      refine hK.out _ _ (fun h => absurd h (by decide)) ?_
      clear hK K
      try simp only [Act.put, List.setIfInBounds_toArray, List.set_cons_succ, List.set_cons_zero]
      refine wpAnyC_any (i := 25) (oi := { dst := some 48, op := Go.Op.fieldAddr 46 (Go.Operand.tmp 3) 0, type := 0, pos := "asts.go:42", after := #[{ on := 0, ground := Go.Ground.phase }, { on := 1, ground := Go.Ground.phase }, { on := 2, ground := Go.Ground.phase }, { on := 3, ground := Go.Ground.phase }, { on := 4, ground := Go.Ground.phase }, { on := 5, ground := Go.Ground.phase }, { on := 6, ground := Go.Ground.phase }, { on := 7, ground := Go.Ground.phase }, { on := 8, ground := Go.Ground.phase }, { on := 9, ground := Go.Ground.phase }, { on := 10, ground := Go.Ground.phase }, { on := 11, ground := Go.Ground.phase }, { on := 12, ground := Go.Ground.phase }, { on := 13, ground := Go.Ground.phase }, { on := 14, ground := Go.Ground.phase }, { on := 15, ground := Go.Ground.phase }, { on := 16, ground := Go.Ground.phase }, { on := 17, ground := Go.Ground.phase }, { on := 18, ground := Go.Ground.phase }, { on := 19, ground := Go.Ground.phase }, { on := 20, ground := Go.Ground.phase }, { on := 21, ground := Go.Ground.phase }, { on := 22, ground := Go.Ground.phase }, { on := 23, ground := Go.Ground.phase }, { on := 24, ground := Go.Ground.phase }], guard := none }) (v := ?_) rfl (by kernel_rfl) (by kernel_rfl) (by kernel_rfl) (by kernel_rfl) (fun _ _ _ h => h) (Or.inl ⟨by rfl, ?_⟩) (fun h => absurd h (by decide)) ?_
      rotate_left 1
      · (intro w _; go_simp; (try with_reducible rfl))
      simp only [Act.put, List.setIfInBounds_toArray, List.set_cons_succ, List.set_cons_zero]
      refine wpAnyC_ready (rs := [26]) (by kernel_rfl) (by simp) ?_
      refine AllReadyC.cons (o := { dst := none, op := Go.Op.store 43 (Go.Operand.tmp 48) (Go.Operand.tmp 47), type := 0, pos := "asts.go:42", after := #[{ on := 25, ground := Go.Ground.data }, { on := 24, ground := Go.Ground.data }, { on := 24, ground := Go.Ground.chain }, { on := 0, ground := Go.Ground.phase }, { on := 1, ground := Go.Ground.phase }, { on := 2, ground := Go.Ground.phase }, { on := 3, ground := Go.Ground.phase }, { on := 4, ground := Go.Ground.phase }, { on := 5, ground := Go.Ground.phase }, { on := 6, ground := Go.Ground.phase }, { on := 7, ground := Go.Ground.phase }, { on := 8, ground := Go.Ground.phase }, { on := 9, ground := Go.Ground.phase }, { on := 10, ground := Go.Ground.phase }, { on := 11, ground := Go.Ground.phase }, { on := 12, ground := Go.Ground.phase }, { on := 13, ground := Go.Ground.phase }, { on := 14, ground := Go.Ground.phase }, { on := 15, ground := Go.Ground.phase }, { on := 16, ground := Go.Ground.phase }, { on := 17, ground := Go.Ground.phase }, { on := 18, ground := Go.Ground.phase }, { on := 19, ground := Go.Ground.phase }, { on := 20, ground := Go.Ground.phase }, { on := 21, ground := Go.Ground.phase }, { on := 22, ground := Go.Ground.phase }, { on := 23, ground := Go.Ground.phase }, { on := 24, ground := Go.Ground.phase }], guard := none }) rfl (fun K hK => ?_) AllReadyC.nil
      go_simp
      refine hK.out _ _ (fun h => absurd h (by decide)) ?_
      clear hK K
      try simp only [Act.put, List.setIfInBounds_toArray, List.set_cons_succ, List.set_cons_zero]
      refine wpAnyC_done (by kernel_rfl) ?_ _
      go_wp2_with fail
      exact ⟨⟨i + 1, by omega, by go_num, ⟨_, by rw [hHE.out]; exact hpj4.out⟩⟩, by simp [intOf]; omega⟩
    · obtain rfl : i = n := by omega
      have hlt' : ¬ (i : Int) < i := by omega
      obtain ⟨A', c', rfl, hdr⟩ := hfin.out _ _ _ HP.out.gr
      have hdr := Lib.hid hdr
      have hle := HP.out.le
      have j0 := HP.out.bo.two
      have j1 := HP.out.br.two
      have f0 := (HP.out.br 0 _ rfl).2
      have f1 := (HP.out.br 1 _ rfl).2
      go_wp2_with fail
      refine bodyPost_ret (v := .agg #[.slice A' i c', .slice B2 m d2]) (by simp [results, Tryd.results24, go_sem, j1.1, j1.2]) rfl ?_
      have hs1 : (wr.setCell ⟨w.heap.size + 1, 0, none⟩ (.slice A' i c')).heap.size = wr.heap.size := by simp [World.setCell]
      refine ⟨A', c', B2, ⟨d2, rfl⟩, (hdr.out.sub ((frB_set _ _ (by omega)).trans (frB_set _ _ (by omega)))).sub (frB_mono (by omega)), (HP.out.sr.sub ((frM_setlo _ _ (by omega)).trans (frM_setlo _ _ (by omega)))).sub (frM_frB _ (by omega)), below_set1 (below_set1 HP.out.bel (by omega)) (by omega)⟩
end Go.Proofs.YtkmioieanopafaaDoor
