/- The landed ast's copies: rows of names; expressions. The landed ast's copies: statements. The landed ast's copies: declarations, programs. -/
import Derived.Test.YtkmioieanopafaaDoorGCopA
import Derived.Test.YtkmioieanopafaaDoorClonL
import Derived.Test.YtkmioieanopafaaDoorAstS
namespace Go.Proofs.YtkmioieanopafaaDoor
section
open Go.RowKit

/-- The row, and what hangs on it, within these blocks. -/
theorem XO.readI {W : World} {lo hi : Nat} {A : Option Addr} {es : List XV} (h : XO W lo hi A es) : XR (only W (frI lo hi)) A es := fun h0 => by
  obtain ⟨b, vs, T, rfl, h2, h3, h4, h5⟩ := h h0
  exact ⟨_, rfl, XS.of_cells (XL.sub (frI_mono (by omega) (Nat.le_refl _)) h5) (fun j v hj => only_cell_mk (by rw [Nat.zero_add, cell_of_row _ _ _ _ _ _ h4]; simpa using hj) (by unfold frI; simp; omega))⟩
theorem mkN (n : Nat) (hn : n ≤ 4000000) : ∃ zc : Array Value, zc.size = n * kcN.z ∧ ∀ u, (Instr.makeSlice 28 (.int .i64 n) (.int .i64 n)).run Tryd.prog u = .ok (.slice (some ⟨u.heap.size, 0, none⟩) n n) (u.alloc (.cells zc 9)) := by
  obtain ⟨i0, hi, hz0, hz1, hz2⟩ := info_parts info_str
  refine ⟨madeCells (.string ByteArray.empty : Value).cells (n * 1), by simp [madeCells, kcN], fun u => ?_⟩
  rw [run_make (P := Tryd.prog) u 28 9 i0 (.string ByteArray.empty) Tryd.underlying28 hi hz0 .i64 .i64 n n (by omega) (Int.le_refl _) (by rw [hz2]; omega) (by omega), hz1]
  simp
/-- What a copied row answers. -/
def CpRN (es : List (List UInt8)) (w : World) (r : Ending) (w' : World) : Prop := ∃ A' c', r = .returned (.slice A' es.length c') ∧ NO w' w.heap.size w'.heap.size A' es ∧ Below w.heap.size w w'

set_option maxRecDepth 100000 in
set_option maxHeartbeats 8000000 in
theorem cpN (es : List (List UInt8)) (hN : pbk es ≤ 4000000) (A : Option Addr) (c : Nat) (w : World) (hx : RowS w A es.length es) : Calls Tryd.prog 100 #[.slice A es.length c, .func (.func 99) #[] #[]] w (CpRN es w) := by
  have hbkl : es.length ≤ pbk es := pbk_len es
  obtain ⟨n, hn⟩ : ∃ n, n = es.length := ⟨_, rfl⟩
  have hx2 := Lib.hid hx
  have htk : Hid (es.take n = es) := by show _ = _; rw [hn]; exact List.take_length
  rw [← hn] at hbkl ⊢
  rw [← hn] at hx2
  have HN := Lib.hid hn
  have hn0 : (0 : Int) ≤ n := by omega
  by_cases h0 : n = 0
  · subst h0
    have hnil : es = [] := List.eq_nil_of_length_eq_zero hn.symm
    clear hn hx
    go_enter Tryd.func100, Tryd.ntmps100
    go_wp2_with fail
    go_ret
    exact ⟨none, 0, by rw [hnil]; rfl, fun h => absurd hnil h, Below.refl _ _⟩
  · have hnz : ((n : Int) == 0) = false := by simp; omega
    obtain ⟨zc, hzc, hmk⟩ := mkN n (by omega)
    have hst0 := Lib.hid (CpSt.start kcN w 9 n zc hzc)
    clear hn hx
    go_enter Tryd.func100, Tryd.ntmps100
    go_wp2_with fail
    clear hmk
    generalize w.alloc (.cells zc 9) = W0 at *
    obtain ⟨ad, had⟩ : ∃ ad, ad = (⟨w.heap.size, 0, none⟩ : Addr) := ⟨_, rfl⟩
    rw [← had]
    replace had := Lib.hid had
    go_loopw [16] (fun u W => ∃ i : Nat, i ≤ n ∧ u = .int .i64 i ∧ Hid (CpSt kcN w w.heap.size 9 n (es.take i) W)) (fun u _ => n - (intOf u).toNat)
    case atStart => exact ⟨0, by omega, rfl, hst0.out⟩
    case round =>
    clear hst0
    obtain ⟨i, hi, rfl, hst⟩ := hrel
    by_cases hlt : i < n
    · have hlt' : (i : Int) < n := by omega
      have hli : Hid ((es.take i).length = i) := by show _ = _; rw [List.length_take, ← HN.out]; omega
      obtain ⟨ad0, x, rfl, he, e0⟩ := (hx2.out.below hst.out.bel).at_ (i := i) hlt
      have hbk := pbk_get he
      have hHE : Hid (es.take (i + 1) = es.take i ++ [x]) := by show _ = _; rw [List.take_add_one, he]; rfl
      have q := libClone ⟨x.toArray⟩ (by show x.toArray.size ≤ _; simp; omega) wr
      have HC : Hid (∀ W lo hi, kcN.CO W x lo hi [.string ⟨x.toArray⟩]) := fun _ _ _ => rfl
      clear he hbk
      generalize (⟨x.toArray⟩ : ByteArray) = xs at *
      go_wp2_with fail
      refine q.mono ?_
      rintro ee w1 ⟨rfl, hb2⟩
      have hst2 := Lib.hid (hst.out.step (hb2))
      have hnew := Lib.hid (hst.out.put (by rw [hli.out]; exact hlt) (hb2) (HC.out w1 _ _) (o := i) (by rw [hli.out]; exact (Nat.mul_one i).symm))
      have hadi : ad.add (i) = ⟨w.heap.size, i, none⟩ := by rw [had.out, add_at, Nat.zero_add]
      obtain ⟨z0, g0⟩ := (hst2.out.cells (by rw [hli.out]; exact hlt) (j := 0) (by decide)).1
      have f0 := (hst2.out.cells (by rw [hli.out]; exact hlt) (j := 0) (by decide)).2
      replace g0 : w1.cell? ⟨w.heap.size, i, none⟩ = some z0 := by rw [hli.out] at g0; rw [show i * kcN.z + 0 = i from Nat.mul_one i] at g0; exact g0
      replace f0 : w1.frozen? ⟨w.heap.size, i, none⟩ = false := by rw [hli.out] at f0; rw [show i * kcN.z + 0 = i from Nat.mul_one i] at f0; exact f0
      clear q
      go_wp2_with fail
      have hW : (w1.setCell ⟨w.heap.size, i, none⟩ (.string xs)) = setL w1 w.heap.size (i) [.string xs] := rfl
      first | rw [hW] | skip
      exact ⟨⟨i + 1, by omega, by go_num, by rw [hHE.out]; exact hnew.out⟩, by simp [intOf]; omega⟩
    · obtain rfl : i = n := by omega
      have hlt' : ¬ (i : Int) < i := by omega
      have hst := hst.out
      rw [htk.out] at hst
      have hst := Lib.hid hst
      go_wp2_with fail
      go_ret
      obtain ⟨vs, k1, k2, k3, k4⟩ := hst.out.fin HN.out.symm
      exact ⟨some ad, i, by rw [← HN.out]; rfl, fun _ => ⟨w.heap.size, 9, by rw [had.out], k1, k2, by rw [k3]; exact congrArg (fun l : List Value => some (Obj.cells l.toArray 9 (0, 0))) k4⟩, hst.out.bel⟩
theorem info_aexpr : (Tryd.prog.info? 66).map (fun i => (i.zero, i.size, i.bytes)) = some (some (.agg #[.int .i64 0, .int .i64 0, .string ⟨#[]⟩, .int .i64 0, .slice none 0 0, .int .i64 0, .int .i64 0]), 7, 80) := by kernel_rfl
theorem mkX (n : Nat) (hn : n ≤ 4000000) : ∃ zc : Array Value, zc.size = n * kcX.z ∧ ∀ u, (Instr.makeSlice 58 (.int .i64 n) (.int .i64 n)).run Tryd.prog u = .ok (.slice (some ⟨u.heap.size, 0, none⟩) n n) (u.alloc (.cells zc 66)) := by
  obtain ⟨i0, hi, hz0, hz1, hz2⟩ := info_parts info_aexpr
  refine ⟨madeCells (.agg #[.int .i64 0, .int .i64 0, .string ⟨#[]⟩, .int .i64 0, .slice none 0 0, .int .i64 0, .int .i64 0] : Value).cells (n * 7), by simp [madeCells, kcX], fun u => ?_⟩
  rw [run_make (P := Tryd.prog) u 58 66 i0 (.agg #[.int .i64 0, .int .i64 0, .string ⟨#[]⟩, .int .i64 0, .slice none 0 0, .int .i64 0, .int .i64 0]) Tryd.underlying58 hi hz0 .i64 .i64 n n (by omega) (Int.le_refl _) (by rw [hz2]; omega) (by omega), hz1]
  simp
/-- What a copied row answers. -/
def CpRX (es : List XV) (w : World) (r : Ending) (w' : World) : Prop := ∃ A' c', r = .returned (.slice A' es.length c') ∧ XO w' w.heap.size w'.heap.size A' es ∧ Below w.heap.size w w'

set_option maxHeartbeats 4000000 in
theorem cpX1 (e : XV) (hN : xbk1 e ≤ 4000000) (ih : ∀ A c W, XR W A e.gs → Calls Tryd.prog 101 #[.slice A e.gs.length c, .func (.func 102) #[] #[]] W (CpRX e.gs W)) (A1 : Option Addr) (c1 : Nat) (w : World) (hx1 : XR w A1 e.gs) :
    Calls Tryd.prog 102 #[xval e A1 c1] w fun r w' => ∃ B1 d1, r = .returned (xval e B1 d1) ∧ (XR (only w' (frI w.heap.size w'.heap.size)) B1 e.gs) ∧ Below w.heap.size w w' := by
  rw [xbk1_eq] at hN
  unfold xval
  cases e with
  | mk k nn x o gs l cc =>
  simp only [XV.k, XV.n, XV.x, XV.o, XV.gs, XV.l, XV.c] at *
  have q1 := fun w => libClone ⟨x.toArray⟩ (by show x.toArray.size ≤ _; simp; omega) w
  have q2 := Lib.hid (fun W h => ih A1 c1 W h)
  unfold CpRX at q2
  have hx := Lib.hid hx1
  have K0 := Lib.hid (TwoB.new w [.int .i64 k, .int .i64 nn, .string ⟨x.toArray⟩, .int .i64 o, .slice A1 gs.length c1, .int .i64 l, .int .i64 cc] [.int .i64 0, .int .i64 0, .string ⟨#[]⟩, .int .i64 0, .slice none 0 0, .int .i64 0, .int .i64 0] 66 66)
  have hsz : Hid (((w.alloc (.cells #[.int .i64 k, .int .i64 nn, .string ⟨x.toArray⟩, .int .i64 o, .slice A1 gs.length c1, .int .i64 l, .int .i64 cc] 66)).alloc (.cells #[.int .i64 0, .int .i64 0, .string ⟨#[]⟩, .int .i64 0, .slice none 0 0, .int .i64 0, .int .i64 0] 66)).heap.size = w.heap.size + 2) := by show _ = _; simp
  clear ih hN hx1
  generalize (⟨x.toArray⟩ : ByteArray) = xs at *
  generalize gs.length = m1 at *
  go_enter Tryd.func102, Tryd.ntmps102
  go_wp2_with fail
  generalize (w.alloc (.cells #[.int .i64 k, .int .i64 nn, .string xs, .int .i64 o, .slice A1 m1 c1, .int .i64 l, .int .i64 cc] 66)).alloc (.cells #[.int .i64 0, .int .i64 0, .string ⟨#[]⟩, .int .i64 0, .slice none 0 0, .int .i64 0, .int .i64 0] 66) = W0 at *
  refine (q1 W0).mono ?_
  rintro e1 w1 ⟨rfl, hb1⟩
  have K1 := Lib.hid (K0.out.step hb1)
  have hs1 : Hid (w.heap.size + 2 ≤ w1.heap.size) := by show _ ≤ _; have := hb1.size; rw [hsz.out] at this; exact this
  clear q1 hb1 K0 hsz
  have a2 := (K1.out.1 2 _ rfl).1
  have b2 := (K1.out.1 2 _ rfl).2
  have kb : Box (w1.setCell ⟨w.heap.size, 2, none⟩ (.string xs)) w.heap.size [.int .i64 k, .int .i64 nn, .string xs, .int .i64 o, .slice A1 m1 c1, .int .i64 l, .int .i64 cc] := K1.out.1.set 2 (.string xs)
  have kr := K1.out.2.1.far (p := ⟨w.heap.size, 2, none⟩) (show w.heap.size ≠ w.heap.size + 1 by omega) (.string xs)
  have K2 : Hid (TwoB w (w1.setCell ⟨w.heap.size, 2, none⟩ (.string xs)) [.int .i64 k, .int .i64 nn, .string xs, .int .i64 o, .slice A1 m1 c1, .int .i64 l, .int .i64 cc] [.int .i64 0, .int .i64 0, .string ⟨#[]⟩, .int .i64 0, .slice none 0 0, .int .i64 0, .int .i64 0]) := ⟨kb, kr, below_set1 K1.out.2.2 (Nat.le_refl _)⟩
  have a4 := (kb 4 _ rfl).1
  have hs2 : Hid (w.heap.size + 2 ≤ (w1.setCell ⟨w.heap.size, 2, none⟩ (.string xs)).heap.size) := by show _ ≤ _; have := hs1.out; simpa [World.setCell] using this
  clear kb kr
  go_wp2_with fail
  generalize w1.setCell ⟨w.heap.size, 2, none⟩ (.string xs) = W2 at *
  refine (q2.out W2 (hx.out.step K2.out.2.2)).mono ?_
  rintro e2 w2 ⟨B1, d1, rfl, o1, hb2⟩
  have K3 := Lib.hid (K2.out.step hb2)
  have hs3 := hs2.out
  have o1 := Lib.hid (o1.mono hs3 (Nat.le_refl _))
  have hs4 : Hid (w.heap.size + 2 ≤ w2.heap.size) := Nat.le_trans hs3 hb2.size
  clear a2 b2 a4 hb2 K1 hs1 hs2 hs3 K2
  have a4 := (K3.out.1 4 _ rfl).1
  have b4 := (K3.out.1 4 _ rfl).2
  have kb : Box (w2.setCell ⟨w.heap.size, 4, none⟩ (.slice B1 m1 d1)) w.heap.size [.int .i64 k, .int .i64 nn, .string xs, .int .i64 o, .slice B1 m1 d1, .int .i64 l, .int .i64 cc] := K3.out.1.set 4 (.slice B1 m1 d1)
  have kr := K3.out.2.1.far (p := ⟨w.heap.size, 4, none⟩) (show w.heap.size ≠ w.heap.size + 1 by omega) (.slice B1 m1 d1)
  have s3 := kb.seven
  have r3 := kr.seven
  have f3 := kr.frz7
  obtain ⟨f30, f31, f32, f33, f34, f35, f36⟩ := f3
  clear kb kr
  go_wp2_with fail
  have hT := (K3.out.2.1.far (p := ⟨w.heap.size, 4, none⟩) (show w.heap.size ≠ w.heap.size + 1 by omega) (.slice B1 m1 d1)).seven
  obtain ⟨t0, t1, t2, t3, t4, t5, t6⟩ := hT
  refine bodyPost_ret (v := .agg #[.int .i64 k, .int .i64 nn, .string xs, .int .i64 o, .slice B1 m1 d1, .int .i64 l, .int .i64 cc]) (by simp [results, Tryd.results102, go_sem, t0, t1, t2, t3, t4, t5, t6]) rfl ?_
  have hk : Kp (w.heap.size + 2) w2.heap.size w2 (setL (setL w2 w.heap.size 4 [.slice B1 m1 d1]) (w.heap.size + 1) 0 [.int .i64 k, .int .i64 nn, .string xs, .int .i64 o, .slice B1 m1 d1, .int .i64 l, .int .i64 cc]) := (setL_kp (Or.inl (by omega)) _ _ _).trans (setL_kp (Or.inl (by omega)) _ _ _)
  have hsz2 : (setL (setL w2 w.heap.size 4 [.slice B1 m1 d1]) (w.heap.size + 1) 0 [.int .i64 k, .int .i64 nn, .string xs, .int .i64 o, .slice B1 m1 d1, .int .i64 l, .int .i64 cc]).heap.size = w2.heap.size := by rw [setL_size, setL_size]
  have hbl : Below w.heap.size w (setL (setL w2 w.heap.size 4 [.slice B1 m1 d1]) (w.heap.size + 1) 0 [.int .i64 k, .int .i64 nn, .string xs, .int .i64 o, .slice B1 m1 d1, .int .i64 l, .int .i64 cc]) := setL_below (by omega) _ _ _ (setL_below (Nat.le_refl _) _ _ _ K3.out.2.2)
  have o2 := (o1.out.keep hk).readI
  rw [← hsz2] at o2
  have o3 := XR.sub o2 (frI_mono (lo' := w.heap.size) (by omega) (Nat.le_refl _))
  exact ⟨B1, d1, rfl, o3, hbl⟩

set_option maxRecDepth 100000 in
set_option maxHeartbeats 8000000 in
theorem cpX (N : Nat) : ∀ (es : List XV), xbk es ≤ N → N ≤ 4000000 → ∀ (A : Option Addr) (c : Nat) (w : World), XR w A es → Calls Tryd.prog 101 #[.slice A es.length c, .func (.func 102) #[] #[]] w (CpRX es w) := by
  induction N using Nat.strongRecOn with
  | ind N ih =>
  intro es hN hNN A c w hx
  have hbkl := xbk_len es
  obtain ⟨n, hn⟩ : ∃ n, n = es.length := ⟨_, rfl⟩
  have hx2 := Lib.hid hx
  have htk : Hid (es.take n = es) := by show _ = _; rw [hn]; exact List.take_length
  rw [← hn] at hbkl ⊢

  have HN := Lib.hid hn
  have hn0 : (0 : Int) ≤ n := by omega
  have IH := Lib.hid ih
  by_cases h0 : n = 0
  · subst h0
    have hnil : es = [] := List.eq_nil_of_length_eq_zero hn.symm
    clear hn hx ih
    go_enter Tryd.func101, Tryd.ntmps101
    go_wp2_with fail
    go_ret
    exact ⟨none, 0, by rw [hnil]; rfl, fun h => absurd hnil h, Below.refl _ _⟩
  · have hnz : ((n : Int) == 0) = false := by simp; omega
    obtain ⟨zc, hzc, hmk⟩ := mkX n (by omega)
    have hst0 := Lib.hid (CpSt.start kcX w 66 n zc hzc)
    clear hn hx ih
    go_enter Tryd.func101, Tryd.ntmps101
    go_wp2_with fail
    clear hmk
    generalize w.alloc (.cells zc 66) = W0 at *
    obtain ⟨ad, had⟩ : ∃ ad, ad = (⟨w.heap.size, 0, none⟩ : Addr) := ⟨_, rfl⟩
    rw [← had]
    replace had := Lib.hid had
    go_loopw [16] (fun u W => ∃ i : Nat, i ≤ n ∧ u = .int .i64 i ∧ Hid (CpSt kcX w w.heap.size 66 n (es.take i) W)) (fun u _ => n - (intOf u).toNat)
    case atStart => exact ⟨0, by omega, rfl, hst0.out⟩
    case round =>
    clear hst0
    obtain ⟨i, hi, rfl, hst⟩ := hrel
    by_cases hlt : i < n
    · have hlt' : (i : Int) < n := by omega
      have hli : Hid ((es.take i).length = i) := by show _ = _; rw [List.length_take, ← HN.out]; omega
      obtain ⟨ad0, e, rfl, he, A1, c1, e0, e1, e2, e3, e4, e5, e6, hx1⟩ := (hx2.out.step hst.out.bel).el (i := i) (by rw [← HN.out]; exact hlt)
      have hbk := xbk_get he
      have hHE : Hid (es.take (i + 1) = es.take i ++ [e]) := by show _ = _; rw [List.take_add_one, he]; rfl
      cases e with
      | mk k nn x o gs l cc =>
      rw [xbk1_eq] at hbk
      simp only [XV.k, XV.n, XV.x, XV.o, XV.gs, XV.l, XV.c] at *
      have hb1 := Lib.hid (bnew5 wr (.cells #[.int .i64 k, .int .i64 nn, .string ⟨x.toArray⟩, .int .i64 o, .slice A1 gs.length c1, .int .i64 l, .int .i64 cc] 66))
      have q := cpX1 (.mk k nn x o gs l cc) (by rw [xbk1_eq]; simp only [XV.x, XV.gs]; omega) (fun A c W h => IH.out (xbk gs) (by omega) gs (Nat.le_refl _) (by omega) A c W h) A1 c1 _ (hx1.step hb1.out)
      have HC : Hid (∀ W lo hi B1 d1, (gs ≠ [] → ∃ ad, B1 = some ad ∧ XS (only W (frI lo hi)) gs ad) → kcX.CO W (.mk k nn x o gs l cc) lo hi [.int .i64 k, .int .i64 nn, .string ⟨x.toArray⟩, .int .i64 o, .slice B1 gs.length d1, .int .i64 l, .int .i64 cc]) := fun W lo hi B1 d1 h => by unfold kcX; simp only; unfold XC; exact ⟨B1, d1, rfl, h⟩
      unfold xval at q
      simp only [XV.k, XV.n, XV.x, XV.o, XV.gs, XV.l, XV.c] at q
      clear he hbk hx1
      generalize gs.length = m1 at *
      generalize (⟨x.toArray⟩ : ByteArray) = xs at *
      go_wp2_with fail
      refine q.mono ?_
      rintro ee w1 ⟨B1, d1, rfl, o1, hb2⟩
      have hst2 := Lib.hid (hst.out.step (bth5 hb1.out hb2))
      have hnew := Lib.hid (hst.out.put (by rw [hli.out]; exact hlt) (bth5 hb1.out hb2) (HC.out w1 _ _ B1 d1 (XR.sub o1 (frI_mono (by have := hb1.out.size; exact this) (Nat.le_refl _)))) (o := i * 7) (by rw [hli.out]; rfl))
      have hadi : ad.add (i * 7) = ⟨w.heap.size, i * 7, none⟩ := by rw [had.out, add_at, Nat.zero_add]
      obtain ⟨z0, g0⟩ := (hst2.out.cells (by rw [hli.out]; exact hlt) (j := 0) (by decide)).1
      have f0 := (hst2.out.cells (by rw [hli.out]; exact hlt) (j := 0) (by decide)).2
      replace g0 : w1.cell? ⟨w.heap.size, i * 7, none⟩ = some z0 := by rw [hli.out] at g0; exact g0
      replace f0 : w1.frozen? ⟨w.heap.size, i * 7, none⟩ = false := by rw [hli.out] at f0; exact f0
      obtain ⟨z1, g1⟩ := (hst2.out.cells (by rw [hli.out]; exact hlt) (j := 1) (by decide)).1
      have f1 := (hst2.out.cells (by rw [hli.out]; exact hlt) (j := 1) (by decide)).2
      replace g1 : w1.cell? ⟨w.heap.size, i * 7 + 1, none⟩ = some z1 := by rw [hli.out] at g1; exact g1
      replace f1 : w1.frozen? ⟨w.heap.size, i * 7 + 1, none⟩ = false := by rw [hli.out] at f1; exact f1
      obtain ⟨z2, g2⟩ := (hst2.out.cells (by rw [hli.out]; exact hlt) (j := 2) (by decide)).1
      have f2 := (hst2.out.cells (by rw [hli.out]; exact hlt) (j := 2) (by decide)).2
      replace g2 : w1.cell? ⟨w.heap.size, i * 7 + 2, none⟩ = some z2 := by rw [hli.out] at g2; exact g2
      replace f2 : w1.frozen? ⟨w.heap.size, i * 7 + 2, none⟩ = false := by rw [hli.out] at f2; exact f2
      obtain ⟨z3, g3⟩ := (hst2.out.cells (by rw [hli.out]; exact hlt) (j := 3) (by decide)).1
      have f3 := (hst2.out.cells (by rw [hli.out]; exact hlt) (j := 3) (by decide)).2
      replace g3 : w1.cell? ⟨w.heap.size, i * 7 + 3, none⟩ = some z3 := by rw [hli.out] at g3; exact g3
      replace f3 : w1.frozen? ⟨w.heap.size, i * 7 + 3, none⟩ = false := by rw [hli.out] at f3; exact f3
      obtain ⟨z4, g4⟩ := (hst2.out.cells (by rw [hli.out]; exact hlt) (j := 4) (by decide)).1
      have f4 := (hst2.out.cells (by rw [hli.out]; exact hlt) (j := 4) (by decide)).2
      replace g4 : w1.cell? ⟨w.heap.size, i * 7 + 4, none⟩ = some z4 := by rw [hli.out] at g4; exact g4
      replace f4 : w1.frozen? ⟨w.heap.size, i * 7 + 4, none⟩ = false := by rw [hli.out] at f4; exact f4
      obtain ⟨z5, g5⟩ := (hst2.out.cells (by rw [hli.out]; exact hlt) (j := 5) (by decide)).1
      have f5 := (hst2.out.cells (by rw [hli.out]; exact hlt) (j := 5) (by decide)).2
      replace g5 : w1.cell? ⟨w.heap.size, i * 7 + 5, none⟩ = some z5 := by rw [hli.out] at g5; exact g5
      replace f5 : w1.frozen? ⟨w.heap.size, i * 7 + 5, none⟩ = false := by rw [hli.out] at f5; exact f5
      obtain ⟨z6, g6⟩ := (hst2.out.cells (by rw [hli.out]; exact hlt) (j := 6) (by decide)).1
      have f6 := (hst2.out.cells (by rw [hli.out]; exact hlt) (j := 6) (by decide)).2
      replace g6 : w1.cell? ⟨w.heap.size, i * 7 + 6, none⟩ = some z6 := by rw [hli.out] at g6; exact g6
      replace f6 : w1.frozen? ⟨w.heap.size, i * 7 + 6, none⟩ = false := by rw [hli.out] at f6; exact f6
      clear q
      go_wp2_with fail
      have hW : (((((((w1.setCell ⟨w.heap.size, i * 7, none⟩ (.int .i64 k)).setCell ⟨w.heap.size, i * 7 + 1, none⟩ (.int .i64 nn)).setCell ⟨w.heap.size, i * 7 + 2, none⟩ (.string xs)).setCell ⟨w.heap.size, i * 7 + 3, none⟩ (.int .i64 o)).setCell ⟨w.heap.size, i * 7 + 4, none⟩ (.slice B1 m1 d1)).setCell ⟨w.heap.size, i * 7 + 5, none⟩ (.int .i64 l)).setCell ⟨w.heap.size, i * 7 + 6, none⟩ (.int .i64 cc)) = setL w1 w.heap.size (i * 7) [.int .i64 k, .int .i64 nn, .string xs, .int .i64 o, .slice B1 m1 d1, .int .i64 l, .int .i64 cc] := rfl
      first | rw [hW] | skip
      exact ⟨⟨i + 1, by omega, by go_num, by rw [hHE.out]; exact hnew.out⟩, by simp [intOf]; omega⟩
    · obtain rfl : i = n := by omega
      have hlt' : ¬ (i : Int) < i := by omega
      have hst := hst.out
      rw [htk.out] at hst
      have hst := Lib.hid hst
      go_wp2_with fail
      go_ret
      obtain ⟨vs, k1, k2, k3, k4⟩ := hst.out.fin HN.out.symm
      exact ⟨some ad, i, by rw [← HN.out]; rfl, fun _ => ⟨w.heap.size, vs, 66, by rw [had.out], k1, k2, k3, k4⟩, hst.out.bel⟩
end

section
open Go.RowKit
theorem info_astmt : (Tryd.prog.info? 62).map (fun i => (i.zero, i.size, i.bytes)) = some (some (.agg #[.int .i64 0, .string ⟨#[]⟩, .slice none 0 0, .slice none 0 0, .slice none 0 0, .int .i64 0, .int .i64 0]), 7, 112) := by kernel_rfl
theorem mkS (n : Nat) (hn : n ≤ 4000000) : ∃ zc : Array Value, zc.size = n * kcS.z ∧ ∀ u, (Instr.makeSlice 39 (.int .i64 n) (.int .i64 n)).run Tryd.prog u = .ok (.slice (some ⟨u.heap.size, 0, none⟩) n n) (u.alloc (.cells zc 62)) := by
  obtain ⟨i0, hi, hz0, hz1, hz2⟩ := info_parts info_astmt
  refine ⟨madeCells (.agg #[.int .i64 0, .string ⟨#[]⟩, .slice none 0 0, .slice none 0 0, .slice none 0 0, .int .i64 0, .int .i64 0] : Value).cells (n * 7), by simp [madeCells, kcS], fun u => ?_⟩
  rw [run_make (P := Tryd.prog) u 39 62 i0 (.agg #[.int .i64 0, .string ⟨#[]⟩, .slice none 0 0, .slice none 0 0, .slice none 0 0, .int .i64 0, .int .i64 0]) Tryd.underlying39 hi hz0 .i64 .i64 n n (by omega) (Int.le_refl _) (by rw [hz2]; omega) (by omega), hz1]
  simp
/-- What a copied row answers. -/
def CpRS (es : List SV) (w : World) (r : Ending) (w' : World) : Prop := ∃ A' c', r = .returned (.slice A' es.length c') ∧ SO w' w.heap.size w'.heap.size A' es ∧ Below w.heap.size w w'

set_option maxRecDepth 100000 in
set_option maxHeartbeats 8000000 in
theorem cpS1 (e : SV) (hN : sbk1 e ≤ 4000000) (ih1 : ∀ A c W, SR W A e.ts → Calls Tryd.prog 76 #[.slice A e.ts.length c, .func (.func 77) #[] #[]] W (CpRS e.ts W)) (ih2 : ∀ A c W, SR W A e.us → Calls Tryd.prog 76 #[.slice A e.us.length c, .func (.func 77) #[] #[]] W (CpRS e.us W)) (A1 : Option Addr) (c1 : Nat) (A2 : Option Addr) (c2 : Nat) (A3 : Option Addr) (c3 : Nat) (w : World) (hx1 : XR w A1 e.es) (hx2 : SR w A2 e.ts) (hx3 : SR w A3 e.us) :
    Calls Tryd.prog 77 #[sval e A1 c1 A2 c2 A3 c3] w fun r w' => ∃ B1 d1 B2 d2 B3 d3, r = .returned (sval e B1 d1 B2 d2 B3 d3) ∧ SOC w' e w.heap.size w'.heap.size [.int .i64 e.k, .string ⟨e.x.toArray⟩, .slice B1 e.es.length d1, .slice B2 e.ts.length d2, .slice B3 e.us.length d3, .int .i64 e.l, .int .i64 e.c] ∧ Below w.heap.size w w' := by
  rw [sbk1_eq] at hN
  unfold sval
  cases e with
  | mk k x gs ts us l cc =>
  simp only [SV.k, SV.x, SV.es, SV.ts, SV.us, SV.l, SV.c] at *
  have q1 := fun w => libClone ⟨x.toArray⟩ (by show x.toArray.size ≤ _; simp; omega) w
  have q2 := Lib.hid (fun W h => cpX (xbk gs) gs (Nat.le_refl _) (by omega) A1 c1 W h)
  have q3 := Lib.hid (fun W h => ih1 A2 c2 W h)
  have q4 := Lib.hid (fun W h => ih2 A3 c3 W h)
  unfold CpRX at q2
  unfold CpRS at q3 q4
  have hx := Lib.hid hx1
  have ht := Lib.hid hx2
  have hu := Lib.hid hx3
  have K0 := Lib.hid (TwoB.new w [.int .i64 k, .string ⟨x.toArray⟩, .slice A1 gs.length c1, .slice A2 ts.length c2, .slice A3 us.length c3, .int .i64 l, .int .i64 cc] [.int .i64 0, .string ⟨#[]⟩, .slice none 0 0, .slice none 0 0, .slice none 0 0, .int .i64 0, .int .i64 0] 62 62)
  have hsz : Hid (((w.alloc (.cells #[.int .i64 k, .string ⟨x.toArray⟩, .slice A1 gs.length c1, .slice A2 ts.length c2, .slice A3 us.length c3, .int .i64 l, .int .i64 cc] 62)).alloc (.cells #[.int .i64 0, .string ⟨#[]⟩, .slice none 0 0, .slice none 0 0, .slice none 0 0, .int .i64 0, .int .i64 0] 62)).heap.size = w.heap.size + 2) := by show _ = _; simp
  have HF : Hid (∀ W lo m1 m2 hi B1 d1 B2 d2 B3 d3, lo ≤ m1 → m1 ≤ m2 → m2 ≤ hi → XO W lo m1 B1 gs → SO W m1 m2 B2 ts → SO W m2 hi B3 us → SOC W (.mk k x gs ts us l cc) lo hi [.int .i64 k, .string ⟨x.toArray⟩, .slice B1 gs.length d1, .slice B2 ts.length d2, .slice B3 us.length d3, .int .i64 l, .int .i64 cc]) := fun W lo m1 m2 hi B1 d1 B2 d2 B3 d3 a1 a2 a3 a4 a5 a6 => by
    unfold SOC
    exact ⟨B1, d1, B2, d2, B3, d3, m1, m2, rfl, a1, a2, a3, a4, a5, a6⟩
  clear ih1 ih2 hN hx1 hx2 hx3
  generalize (⟨x.toArray⟩ : ByteArray) = xs at *
  generalize gs.length = m1 at *
  generalize ts.length = m2 at *
  generalize us.length = m3 at *
  go_enter Tryd.func77, Tryd.ntmps77
  go_wp2_with fail
  generalize (w.alloc (.cells #[.int .i64 k, .string xs, .slice A1 m1 c1, .slice A2 m2 c2, .slice A3 m3 c3, .int .i64 l, .int .i64 cc] 62)).alloc (.cells #[.int .i64 0, .string ⟨#[]⟩, .slice none 0 0, .slice none 0 0, .slice none 0 0, .int .i64 0, .int .i64 0] 62) = W0 at *
  refine (q1 W0).mono ?_
  rintro e1 w1 ⟨rfl, hb1⟩
  have K1 := Lib.hid (K0.out.step hb1)
  have hs1 : Hid (w.heap.size + 2 ≤ w1.heap.size) := by show _ ≤ _; have := hb1.size; rw [hsz.out] at this; exact this
  clear q1 hb1 K0 hsz
  have a1 := (K1.out.1 1 _ rfl).1
  have b1 := (K1.out.1 1 _ rfl).2
  have kb : Box (w1.setCell ⟨w.heap.size, 1, none⟩ (.string xs)) w.heap.size [.int .i64 k, .string xs, .slice A1 m1 c1, .slice A2 m2 c2, .slice A3 m3 c3, .int .i64 l, .int .i64 cc] := K1.out.1.set 1 (.string xs)
  have kr := K1.out.2.1.far (p := ⟨w.heap.size, 1, none⟩) (show w.heap.size ≠ w.heap.size + 1 by omega) (.string xs)
  have K2 : Hid (TwoB w (w1.setCell ⟨w.heap.size, 1, none⟩ (.string xs)) [.int .i64 k, .string xs, .slice A1 m1 c1, .slice A2 m2 c2, .slice A3 m3 c3, .int .i64 l, .int .i64 cc] [.int .i64 0, .string ⟨#[]⟩, .slice none 0 0, .slice none 0 0, .slice none 0 0, .int .i64 0, .int .i64 0]) := ⟨kb, kr, below_set1 K1.out.2.2 (Nat.le_refl _)⟩
  have a4 := (kb 2 _ rfl).1
  have hs2 : Hid (w.heap.size + 2 ≤ (w1.setCell ⟨w.heap.size, 1, none⟩ (.string xs)).heap.size) := by show _ ≤ _; have := hs1.out; simpa [World.setCell] using this
  clear kb kr
  go_wp2_with fail
  generalize w1.setCell ⟨w.heap.size, 1, none⟩ (.string xs) = W2 at *
  refine (q2.out W2 (hx.out.step K2.out.2.2)).mono ?_
  rintro e2 w2 ⟨B1, d1, rfl, o1, hb2⟩
  have K3 := Lib.hid (K2.out.step hb2)
  have hs2' := hs2.out
  have o1 := Lib.hid (o1.mono hs2' (Nat.le_refl _))
  have hs3 : Hid (w.heap.size + 2 ≤ w2.heap.size) := Nat.le_trans hs2' hb2.size
  clear a1 b1 a4 hb2 K1 hs1 hs2 hs2' K2
  have a2 := (K3.out.1 2 _ rfl).1
  have b2 := (K3.out.1 2 _ rfl).2
  have kb : Box (w2.setCell ⟨w.heap.size, 2, none⟩ (.slice B1 m1 d1)) w.heap.size [.int .i64 k, .string xs, .slice B1 m1 d1, .slice A2 m2 c2, .slice A3 m3 c3, .int .i64 l, .int .i64 cc] := K3.out.1.set 2 (.slice B1 m1 d1)
  have kr := K3.out.2.1.far (p := ⟨w.heap.size, 2, none⟩) (show w.heap.size ≠ w.heap.size + 1 by omega) (.slice B1 m1 d1)
  have K3 : Hid (TwoB w (w2.setCell ⟨w.heap.size, 2, none⟩ (.slice B1 m1 d1)) [.int .i64 k, .string xs, .slice B1 m1 d1, .slice A2 m2 c2, .slice A3 m3 c3, .int .i64 l, .int .i64 cc] [.int .i64 0, .string ⟨#[]⟩, .slice none 0 0, .slice none 0 0, .slice none 0 0, .int .i64 0, .int .i64 0]) := ⟨kb, kr, below_set1 K3.out.2.2 (Nat.le_refl _)⟩
  have o1 : Hid (XO (w2.setCell ⟨w.heap.size, 2, none⟩ (.slice B1 m1 d1)) (w.heap.size + 2) w2.heap.size B1 gs) := o1.out.keep (Kp.set _ _ (Or.inl (by omega)))
  have hsq : Hid ((w2.setCell ⟨w.heap.size, 2, none⟩ (.slice B1 m1 d1)).heap.size = w2.heap.size) := by show _ = _; simp [World.setCell]
  clear kb kr
  go_wp2_with fail
  generalize w2.setCell ⟨w.heap.size, 2, none⟩ (.slice B1 m1 d1) = W3 at *
  have K3 := Lib.hid (K3.out.step (Below.refl _ _).drew)
  have o1 := Lib.hid (o1.out.keep (Kp.of_below (hi := w2.heap.size) (Below.refl W3.heap.size W3).drew (by rw [hsq.out]; exact Nat.le_refl _)))
  have hs3' : Hid (w2.heap.size ≤ W3.drew.heap.size) := by show _ ≤ _; have := hsq.out; simp; omega
  have k3 : Hid ((fun w' => w'.cell? ⟨w.heap.size, 3, none⟩ = some (.slice A2 m2 c2) ∧ w'.cell? ⟨w.heap.size, 4, none⟩ = some (.slice A3 m3 c3)) W3.drew) := ⟨(K3.out.1 3 _ rfl).1, (K3.out.1 4 _ rfl).1⟩
  have hs3o := Lib.hid hs3.out
  clear hs3 hsq a2 b2
  have hs3 : Hid (w2.heap.size ≤ W3.drew.heap.size) := hs3'.out
  clear hs3'
  refine wp_region_C 7 (fun w' => w'.cell? ⟨w.heap.size, 3, none⟩ = some (.slice A2 m2 c2) ∧ w'.cell? ⟨w.heap.size, 4, none⟩ = some (.slice A3 m3 c3)) (by kernel_rfl) ?_
  refine wpAnyC_any (i := 0) (oi := { dst := some 11, op := Go.Op.fieldAddr 62 (Go.Operand.tmp 1) 3, type := 0, pos := "ast.go:216", after := #[], guard := none }) (v := ?_) rfl (by kernel_rfl) (by kernel_rfl) (by kernel_rfl) (by kernel_rfl) (fun _ _ _ h => h) (Or.inl ⟨by rfl, ?_⟩) (fun _ => k3.out) ?_
  rotate_left 1
  · (intro w _; go_simp; (try with_reducible rfl))
  simp only [Act.put, List.setIfInBounds_toArray, List.set_cons_succ, List.set_cons_zero]
  refine wpAnyC_take (i := 1) [7] (oi := { dst := some 12, op := Go.Op.load 39 (Go.Operand.tmp 11), type := 39, pos := "ast.go:216", after := #[{ on := 0, ground := Go.Ground.data }], guard := none }) (v := ?_) rfl (by kernel_rfl) (by kernel_rfl) (by kernel_rfl) (by kernel_rfl) (by kernel_rfl) (by kernel_rfl) (by kernel_rfl) (fun _ _ _ h => h) (Or.inl ⟨by rfl, ?_⟩) (fun _ => k3.out) ?_
  rotate_left 1
  · (intro w hSw; (try dsimp only at hSw); go_simp; (try with_reducible rfl))
  simp only [Act.put, List.setIfInBounds_toArray, List.set_cons_succ, List.set_cons_zero]
  refine wpAnyC_any (i := 3) (oi := { dst := some 14, op := Go.Op.fieldAddr 62 (Go.Operand.tmp 1) 4, type := 0, pos := "ast.go:216", after := #[], guard := none }) (v := ?_) rfl (by kernel_rfl) (by kernel_rfl) (by kernel_rfl) (by kernel_rfl) (fun _ _ _ h => h) (Or.inl ⟨by rfl, ?_⟩) (fun _ => k3.out) ?_
  rotate_left 1
  · (intro w _; go_simp; (try with_reducible rfl))
  simp only [Act.put, List.setIfInBounds_toArray, List.set_cons_succ, List.set_cons_zero]
  refine wpAnyC_take (i := 4) [7] (oi := { dst := some 15, op := Go.Op.load 39 (Go.Operand.tmp 14), type := 39, pos := "ast.go:216", after := #[{ on := 3, ground := Go.Ground.data }], guard := none }) (v := ?_) rfl (by kernel_rfl) (by kernel_rfl) (by kernel_rfl) (by kernel_rfl) (by kernel_rfl) (by kernel_rfl) (by kernel_rfl) (fun _ _ _ h => h) (Or.inl ⟨by rfl, ?_⟩) (fun _ => k3.out) ?_
  rotate_left 1
  · (intro w hSw; (try dsimp only at hSw); go_simp; (try with_reducible rfl))
  simp only [Act.put, List.setIfInBounds_toArray, List.set_cons_succ, List.set_cons_zero]
  refine wpAnyC_ready (rs := [2]) (by kernel_rfl) (by simp) ?_
  refine AllReadyC.cons (o := { dst := some 13, op := Go.Op.call { callee := Go.Callee.value (Go.Operand.func 76), args := #[Go.Operand.tmp 12, Go.Operand.func 77], argTypes := #[39, 109] }, type := 39, pos := "ast.go:216", after := #[{ on := 1, ground := Go.Ground.data }], guard := none }) rfl (fun K hK => ?_) AllReadyC.nil
  go_simp
  refine (q3.out _ (ht.out.step K3.out.2.2)).mono ?_
  rintro e3 w3 ⟨B2, d2, rfl, o2, hb3⟩
  have K4 := Lib.hid (K3.out.step hb3)
  have o1 := Lib.hid (o1.out.keep (Kp.of_below hb3 hs3.out))
  have o2 := Lib.hid o2
  have hs4 : Hid (W3.drew.heap.size ≤ w3.heap.size) := hb3.size
  have k4 : Hid ((fun w' => w'.cell? ⟨w.heap.size, 3, none⟩ = some (.slice A2 m2 c2) ∧ w'.cell? ⟨w.heap.size, 4, none⟩ = some (.slice A3 m3 c3)) w3) := ⟨(K4.out.1 3 _ rfl).1, (K4.out.1 4 _ rfl).1⟩
  refine hK.out _ _ (fun _ => k4.out) ?_
  clear hK K
  try simp only [Act.put, List.setIfInBounds_toArray, List.set_cons_succ, List.set_cons_zero]
  refine wpAnyC_any (i := 6) (oi := { dst := some 17, op := Go.Op.fieldAddr 62 (Go.Operand.tmp 1) 3, type := 0, pos := "ast.go:216", after := #[{ on := 0, ground := Go.Ground.phase }, { on := 1, ground := Go.Ground.phase }, { on := 2, ground := Go.Ground.phase }, { on := 3, ground := Go.Ground.phase }, { on := 4, ground := Go.Ground.phase }, { on := 5, ground := Go.Ground.textOnly Go.Departure.lateStoresUnsure }], guard := none }) (v := ?_) rfl (by kernel_rfl) (by kernel_rfl) (by kernel_rfl) (by kernel_rfl) (fun _ _ _ h => h) (Or.inl ⟨by rfl, ?_⟩) (fun _ => k4.out) ?_
  rotate_left 1
  · (intro w _; go_simp; (try with_reducible rfl))
  simp only [Act.put, List.setIfInBounds_toArray, List.set_cons_succ, List.set_cons_zero]
  refine wpAnyC_ready (rs := [5]) (by kernel_rfl) (by simp) ?_
  refine AllReadyC.cons (o := { dst := some 16, op := Go.Op.call { callee := Go.Callee.value (Go.Operand.func 76), args := #[Go.Operand.tmp 15, Go.Operand.func 77], argTypes := #[39, 109] }, type := 39, pos := "ast.go:216", after := #[{ on := 4, ground := Go.Ground.data }, { on := 2, ground := Go.Ground.chain }], guard := none }) rfl (fun K hK => ?_) AllReadyC.nil
  go_simp
  refine (q4.out _ (hu.out.step K4.out.2.2)).mono ?_
  rintro e4 w4 ⟨B3, d3, rfl, o3, hb4⟩
  have K5 := Lib.hid (K4.out.step hb4)
  have o1 := Lib.hid (o1.out.keep (Kp.of_below hb4 (Nat.le_trans hs3.out hs4.out)))
  have o2 := Lib.hid (o2.out.keep (Kp.of_below hb4 (Nat.le_refl _)))
  have o3 := Lib.hid o3
  have hs5 : Hid (w3.heap.size ≤ w4.heap.size) := hb4.size
  have k5 : Hid ((fun w' => w'.cell? ⟨w.heap.size, 3, none⟩ = some (.slice A2 m2 c2) ∧ w'.cell? ⟨w.heap.size, 4, none⟩ = some (.slice A3 m3 c3)) w4) := ⟨(K5.out.1 3 _ rfl).1, (K5.out.1 4 _ rfl).1⟩
  have j3 := (K5.out.1 3 _ rfl).1
  have f3 := (K5.out.1 3 _ rfl).2
  have Y1 : Box (w4.setCell ⟨w.heap.size, 3, none⟩ (.slice B2 m2 d2)) w.heap.size [.int .i64 k, .string xs, .slice B1 m1 d1, .slice B2 m2 d2, .slice A3 m3 c3, .int .i64 l, .int .i64 cc] := K5.out.1.set 3 (.slice B2 m2 d2)
  have j4 := (Y1 4 _ rfl).1
  have f4 := (Y1 4 _ rfl).2
  refine hK.out _ _ (fun _ => k5.out) ?_
  clear hK K
  try simp only [Act.put, List.setIfInBounds_toArray, List.set_cons_succ, List.set_cons_zero]
  refine wpAnyC_ready (rs := [7]) (by kernel_rfl) (by simp) ?_
  refine AllReadyC.cons (o := { dst := none, op := Go.Op.store 39 (Go.Operand.tmp 17) (Go.Operand.tmp 13), type := 0, pos := "ast.go:216", after := #[{ on := 6, ground := Go.Ground.data }, { on := 2, ground := Go.Ground.data }, { on := 5, ground := Go.Ground.chain }, { on := 0, ground := Go.Ground.phase }, { on := 1, ground := Go.Ground.phase }, { on := 2, ground := Go.Ground.phase }, { on := 3, ground := Go.Ground.phase }, { on := 4, ground := Go.Ground.phase }, { on := 5, ground := Go.Ground.textOnly Go.Departure.lateStoresUnsure }], guard := none }) rfl (fun K hK => ?_) AllReadyC.nil
  go_simp
  refine hK.out _ _ (fun h => absurd h (by decide)) ?_
  clear hK K
  try simp only [Act.put, List.setIfInBounds_toArray, List.set_cons_succ, List.set_cons_zero]
  refine wpAnyC_any (i := 8) (oi := { dst := some 18, op := Go.Op.fieldAddr 62 (Go.Operand.tmp 1) 4, type := 0, pos := "ast.go:216", after := #[{ on := 0, ground := Go.Ground.phase }, { on := 1, ground := Go.Ground.phase }, { on := 2, ground := Go.Ground.phase }, { on := 3, ground := Go.Ground.phase }, { on := 4, ground := Go.Ground.phase }, { on := 5, ground := Go.Ground.phase }, { on := 6, ground := Go.Ground.phase }, { on := 7, ground := Go.Ground.phase }], guard := none }) (v := ?_) rfl (by kernel_rfl) (by kernel_rfl) (by kernel_rfl) (by kernel_rfl) (fun _ _ _ h => h) (Or.inl ⟨by rfl, ?_⟩) (fun h => absurd h (by decide)) ?_
  rotate_left 1
  · (intro w _; go_simp; (try with_reducible rfl))
  simp only [Act.put, List.setIfInBounds_toArray, List.set_cons_succ, List.set_cons_zero]
  refine wpAnyC_ready (rs := [9]) (by kernel_rfl) (by simp) ?_
  refine AllReadyC.cons (o := { dst := none, op := Go.Op.store 39 (Go.Operand.tmp 18) (Go.Operand.tmp 16), type := 0, pos := "ast.go:216", after := #[{ on := 8, ground := Go.Ground.data }, { on := 5, ground := Go.Ground.data }, { on := 7, ground := Go.Ground.chain }, { on := 0, ground := Go.Ground.phase }, { on := 1, ground := Go.Ground.phase }, { on := 2, ground := Go.Ground.phase }, { on := 3, ground := Go.Ground.phase }, { on := 4, ground := Go.Ground.phase }, { on := 5, ground := Go.Ground.phase }, { on := 6, ground := Go.Ground.phase }, { on := 7, ground := Go.Ground.phase }], guard := none }) rfl (fun K hK => ?_) AllReadyC.nil
  go_simp
  refine hK.out _ _ (fun h => absurd h (by decide)) ?_
  clear hK K
  try simp only [Act.put, List.setIfInBounds_toArray, List.set_cons_succ, List.set_cons_zero]
  refine wpAnyC_done (by kernel_rfl) ?_ _
  have hn1 := hs3o.out
  have hn2 := hs3.out
  have hn3 := hs4.out
  have hn4 := hs5.out
  have Y : Box ((w4.setCell ⟨w.heap.size, 3, none⟩ (.slice B2 m2 d2)).setCell ⟨w.heap.size, 4, none⟩ (.slice B3 m3 d3)) w.heap.size [.int .i64 k, .string xs, .slice B1 m1 d1, .slice B2 m2 d2, .slice B3 m3 d3, .int .i64 l, .int .i64 cc] := Y1.set 4 (.slice B3 m3 d3)
  have R := (K5.out.2.1.far (p := ⟨w.heap.size, 3, none⟩) (show w.heap.size ≠ w.heap.size + 1 by omega) (.slice B2 m2 d2)).far (p := ⟨w.heap.size, 4, none⟩) (show w.heap.size ≠ w.heap.size + 1 by omega) (.slice B3 m3 d3)
  have s5 := Y.seven
  have r5 := R.seven
  obtain ⟨f50, f51, f52, f53, f54, f55, f56⟩ := R.frz7
  have hk : Kp (w.heap.size + 2) w4.heap.size w4 (setL (setL w4 w.heap.size 3 [.slice B2 m2 d2, .slice B3 m3 d3]) (w.heap.size + 1) 0 [.int .i64 k, .string xs, .slice B1 m1 d1, .slice B2 m2 d2, .slice B3 m3 d3, .int .i64 l, .int .i64 cc]) := (setL_kp (Or.inl (by omega)) _ _ _).trans (setL_kp (Or.inl (by omega)) _ _ _)
  have hsz2 : (setL (setL w4 w.heap.size 3 [.slice B2 m2 d2, .slice B3 m3 d3]) (w.heap.size + 1) 0 [.int .i64 k, .string xs, .slice B1 m1 d1, .slice B2 m2 d2, .slice B3 m3 d3, .int .i64 l, .int .i64 cc]).heap.size = w4.heap.size := by rw [setL_size, setL_size]
  have hbl := Lib.hid (setL_below (b := w.heap.size + 1) (Nat.le_succ w.heap.size) [.int .i64 k, .string xs, .slice B1 m1 d1, .slice B2 m2 d2, .slice B3 m3 d3, .int .i64 l, .int .i64 cc] 0 _ (setL_below (b := w.heap.size) (Nat.le_refl w.heap.size) [.slice B2 m2 d2, .slice B3 m3 d3] 3 w4 K5.out.2.2))
  have hfin := Lib.hid ((HF.out _ (w.heap.size + 2) w2.heap.size w3.heap.size w4.heap.size B1 d1 B2 d2 B3 d3 hn1 (by omega) hn4 (o1.out.keep (hk.mono (Nat.le_refl _) (by omega))) ((o2.out.mono (by omega) (Nat.le_refl _)).keep (hk.mono (by omega) hn4)) (o3.out.keep (hk.mono (by omega) (Nat.le_refl _)))).mono _ _ _ w.heap.size (setL (setL w4 w.heap.size 3 [.slice B2 m2 d2, .slice B3 m3 d3]) (w.heap.size + 1) 0 [.int .i64 k, .string xs, .slice B1 m1 d1, .slice B2 m2 d2, .slice B3 m3 d3, .int .i64 l, .int .i64 cc]).heap.size _ (by omega) (by rw [hsz2]; exact Nat.le_refl _))
  clear hk hsz2 o1 o2 o3 Y R Y1 K5 j3 f3 j4 f4
  go_wp2_with fail
  obtain ⟨t0, t1, t2, t3, t4, t5, t6⟩ := r5
  refine bodyPost_ret (v := .agg #[.int .i64 k, .string xs, .slice B1 m1 d1, .slice B2 m2 d2, .slice B3 m3 d3, .int .i64 l, .int .i64 cc]) (by simp [results, Tryd.results77, go_sem, t0, t1, t2, t3, t4, t5, t6]) rfl ?_
  exact ⟨B1, d1, B2, d2, B3, d3, rfl, hfin.out, hbl.out⟩

set_option maxRecDepth 100000 in
set_option maxHeartbeats 8000000 in
theorem cpS (N : Nat) : ∀ (es : List SV), sbk es ≤ N → N ≤ 4000000 → ∀ (A : Option Addr) (c : Nat) (w : World), SR w A es → Calls Tryd.prog 76 #[.slice A es.length c, .func (.func 77) #[] #[]] w (CpRS es w) := by
  induction N using Nat.strongRecOn with
  | ind N ih =>
  intro es hN hNN A c w hx
  have hbkl := sbk_len es
  obtain ⟨n, hn⟩ : ∃ n, n = es.length := ⟨_, rfl⟩
  have hx2 := Lib.hid hx
  have htk : Hid (es.take n = es) := by show _ = _; rw [hn]; exact List.take_length
  rw [← hn] at hbkl ⊢

  have HN := Lib.hid hn
  have hn0 : (0 : Int) ≤ n := by omega
  have IH := Lib.hid ih
  by_cases h0 : n = 0
  · subst h0
    have hnil : es = [] := List.eq_nil_of_length_eq_zero hn.symm
    clear hn hx ih
    go_enter Tryd.func76, Tryd.ntmps76
    go_wp2_with fail
    go_ret
    exact ⟨none, 0, by rw [hnil]; rfl, fun h => absurd hnil h, Below.refl _ _⟩
  · have hnz : ((n : Int) == 0) = false := by simp; omega
    obtain ⟨zc, hzc, hmk⟩ := mkS n (by omega)
    have hst0 := Lib.hid (CpSt.start kcS w 62 n zc hzc)
    clear hn hx ih
    go_enter Tryd.func76, Tryd.ntmps76
    go_wp2_with fail
    clear hmk
    generalize w.alloc (.cells zc 62) = W0 at *
    obtain ⟨ad, had⟩ : ∃ ad, ad = (⟨w.heap.size, 0, none⟩ : Addr) := ⟨_, rfl⟩
    rw [← had]
    replace had := Lib.hid had
    go_loopw [16] (fun u W => ∃ i : Nat, i ≤ n ∧ u = .int .i64 i ∧ Hid (CpSt kcS w w.heap.size 62 n (es.take i) W)) (fun u _ => n - (intOf u).toNat)
    case atStart => exact ⟨0, by omega, rfl, hst0.out⟩
    case round =>
    clear hst0
    obtain ⟨i, hi, rfl, hst⟩ := hrel
    by_cases hlt : i < n
    · have hlt' : (i : Int) < n := by omega
      have hli : Hid ((es.take i).length = i) := by show _ = _; rw [List.length_take, ← HN.out]; omega
      obtain ⟨ad0, e, rfl, he, A1, c1, A2, c2, A3, c3, e0, e1, e2, e3, e4, e5, e6, hx1, hx2', hx3⟩ := (hx2.out.step hst.out.bel).el (i := i) (by rw [← HN.out]; exact hlt)
      have hbk := sbk_get he
      have hHE : Hid (es.take (i + 1) = es.take i ++ [e]) := by show _ = _; rw [List.take_add_one, he]; rfl
      cases e with
      | mk k x gs ts us l cc =>
      rw [sbk1_eq] at hbk
      simp only [SV.k, SV.x, SV.es, SV.ts, SV.us, SV.l, SV.c] at *
      have hb1 := Lib.hid (bnew5 wr (.cells #[.int .i64 k, .string ⟨x.toArray⟩, .slice A1 gs.length c1, .slice A2 ts.length c2, .slice A3 us.length c3, .int .i64 l, .int .i64 cc] 62))
      have q := cpS1 (.mk k x gs ts us l cc) (by rw [sbk1_eq]; simp only [SV.x, SV.es, SV.ts, SV.us]; omega) (fun A c W h => IH.out (sbk ts) (by omega) ts (Nat.le_refl _) (by omega) A c W h) (fun A c W h => IH.out (sbk us) (by omega) us (Nat.le_refl _) (by omega) A c W h) A1 c1 A2 c2 A3 c3 _ (hx1.step hb1.out) (hx2'.step hb1.out) (hx3.step hb1.out)
      have HC : Hid (∀ W lo hi B1 d1 B2 d2 B3 d3, SOC W (.mk k x gs ts us l cc) lo hi [.int .i64 k, .string ⟨x.toArray⟩, .slice B1 gs.length d1, .slice B2 ts.length d2, .slice B3 us.length d3, .int .i64 l, .int .i64 cc] → kcS.CO W (.mk k x gs ts us l cc) lo hi [.int .i64 k, .string ⟨x.toArray⟩, .slice B1 gs.length d1, .slice B2 ts.length d2, .slice B3 us.length d3, .int .i64 l, .int .i64 cc]) := fun W lo hi B1 d1 B2 d2 B3 d3 h => h
      unfold sval at q
      simp only [SV.k, SV.x, SV.es, SV.ts, SV.us, SV.l, SV.c] at q
      clear he hbk hx1 hx2' hx3
      generalize gs.length = m1 at *
      generalize ts.length = m2 at *
      generalize us.length = m3 at *
      generalize (⟨x.toArray⟩ : ByteArray) = xs at *
      go_wp2_with fail
      refine q.mono ?_
      rintro ee w1 ⟨B1, d1, B2, d2, B3, d3, rfl, o1, hb2⟩
      have hst2 := Lib.hid (hst.out.step (bth5 hb1.out hb2))
      have hnew := Lib.hid (hst.out.put (by rw [hli.out]; exact hlt) (bth5 hb1.out hb2) (HC.out w1 _ _ B1 d1 B2 d2 B3 d3 (o1.mono _ _ _ _ _ _ hb1.out.size (Nat.le_refl _))) (o := i * 7) (by rw [hli.out]; rfl))
      have hadi : ad.add (i * 7) = ⟨w.heap.size, i * 7, none⟩ := by rw [had.out, add_at, Nat.zero_add]
      obtain ⟨z0, g0⟩ := (hst2.out.cells (by rw [hli.out]; exact hlt) (j := 0) (by decide)).1
      have f0 := (hst2.out.cells (by rw [hli.out]; exact hlt) (j := 0) (by decide)).2
      replace g0 : w1.cell? ⟨w.heap.size, i * 7, none⟩ = some z0 := by rw [hli.out] at g0; exact g0
      replace f0 : w1.frozen? ⟨w.heap.size, i * 7, none⟩ = false := by rw [hli.out] at f0; exact f0
      obtain ⟨z1, g1⟩ := (hst2.out.cells (by rw [hli.out]; exact hlt) (j := 1) (by decide)).1
      have f1 := (hst2.out.cells (by rw [hli.out]; exact hlt) (j := 1) (by decide)).2
      replace g1 : w1.cell? ⟨w.heap.size, i * 7 + 1, none⟩ = some z1 := by rw [hli.out] at g1; exact g1
      replace f1 : w1.frozen? ⟨w.heap.size, i * 7 + 1, none⟩ = false := by rw [hli.out] at f1; exact f1
      obtain ⟨z2, g2⟩ := (hst2.out.cells (by rw [hli.out]; exact hlt) (j := 2) (by decide)).1
      have f2 := (hst2.out.cells (by rw [hli.out]; exact hlt) (j := 2) (by decide)).2
      replace g2 : w1.cell? ⟨w.heap.size, i * 7 + 2, none⟩ = some z2 := by rw [hli.out] at g2; exact g2
      replace f2 : w1.frozen? ⟨w.heap.size, i * 7 + 2, none⟩ = false := by rw [hli.out] at f2; exact f2
      obtain ⟨z3, g3⟩ := (hst2.out.cells (by rw [hli.out]; exact hlt) (j := 3) (by decide)).1
      have f3 := (hst2.out.cells (by rw [hli.out]; exact hlt) (j := 3) (by decide)).2
      replace g3 : w1.cell? ⟨w.heap.size, i * 7 + 3, none⟩ = some z3 := by rw [hli.out] at g3; exact g3
      replace f3 : w1.frozen? ⟨w.heap.size, i * 7 + 3, none⟩ = false := by rw [hli.out] at f3; exact f3
      obtain ⟨z4, g4⟩ := (hst2.out.cells (by rw [hli.out]; exact hlt) (j := 4) (by decide)).1
      have f4 := (hst2.out.cells (by rw [hli.out]; exact hlt) (j := 4) (by decide)).2
      replace g4 : w1.cell? ⟨w.heap.size, i * 7 + 4, none⟩ = some z4 := by rw [hli.out] at g4; exact g4
      replace f4 : w1.frozen? ⟨w.heap.size, i * 7 + 4, none⟩ = false := by rw [hli.out] at f4; exact f4
      obtain ⟨z5, g5⟩ := (hst2.out.cells (by rw [hli.out]; exact hlt) (j := 5) (by decide)).1
      have f5 := (hst2.out.cells (by rw [hli.out]; exact hlt) (j := 5) (by decide)).2
      replace g5 : w1.cell? ⟨w.heap.size, i * 7 + 5, none⟩ = some z5 := by rw [hli.out] at g5; exact g5
      replace f5 : w1.frozen? ⟨w.heap.size, i * 7 + 5, none⟩ = false := by rw [hli.out] at f5; exact f5
      obtain ⟨z6, g6⟩ := (hst2.out.cells (by rw [hli.out]; exact hlt) (j := 6) (by decide)).1
      have f6 := (hst2.out.cells (by rw [hli.out]; exact hlt) (j := 6) (by decide)).2
      replace g6 : w1.cell? ⟨w.heap.size, i * 7 + 6, none⟩ = some z6 := by rw [hli.out] at g6; exact g6
      replace f6 : w1.frozen? ⟨w.heap.size, i * 7 + 6, none⟩ = false := by rw [hli.out] at f6; exact f6
      clear q
      go_wp2_with fail
      have hW : (((((((w1.setCell ⟨w.heap.size, i * 7, none⟩ (.int .i64 k)).setCell ⟨w.heap.size, i * 7 + 1, none⟩ (.string xs)).setCell ⟨w.heap.size, i * 7 + 2, none⟩ (.slice B1 m1 d1)).setCell ⟨w.heap.size, i * 7 + 3, none⟩ (.slice B2 m2 d2)).setCell ⟨w.heap.size, i * 7 + 4, none⟩ (.slice B3 m3 d3)).setCell ⟨w.heap.size, i * 7 + 5, none⟩ (.int .i64 l)).setCell ⟨w.heap.size, i * 7 + 6, none⟩ (.int .i64 cc)) = setL w1 w.heap.size (i * 7) [.int .i64 k, .string xs, .slice B1 m1 d1, .slice B2 m2 d2, .slice B3 m3 d3, .int .i64 l, .int .i64 cc] := rfl
      first | rw [hW] | skip
      exact ⟨⟨i + 1, by omega, by go_num, by rw [hHE.out]; exact hnew.out⟩, by simp [intOf]; omega⟩
    · obtain rfl : i = n := by omega
      have hlt' : ¬ (i : Int) < i := by omega
      have hst := hst.out
      rw [htk.out] at hst
      have hst := Lib.hid hst
      go_wp2_with fail
      go_ret
      obtain ⟨vs, k1, k2, k3, k4⟩ := hst.out.fin HN.out.symm
      exact ⟨some ad, i, by rw [← HN.out]; rfl, fun _ => ⟨w.heap.size, vs, 62, by rw [had.out], k1, k2, k3, k4⟩, hst.out.bel⟩
end

section
open Go.RowKit
theorem info_adecl : (Tryd.prog.info? 84).map (fun i => (i.zero, i.size, i.bytes)) = some (some (.agg #[.int .i64 0, .string ⟨#[]⟩, .int .i64 0, .int .i64 0, .int .i64 0, .slice none 0 0, .slice none 0 0, .int .i64 0, .int .i64 0]), 9, 112) := by kernel_rfl
theorem mkD (n : Nat) (hn : n ≤ 4000000) : ∃ zc : Array Value, zc.size = n * kcD.z ∧ ∀ u, (Instr.makeSlice 38 (.int .i64 n) (.int .i64 n)).run Tryd.prog u = .ok (.slice (some ⟨u.heap.size, 0, none⟩) n n) (u.alloc (.cells zc 84)) := by
  obtain ⟨i0, hi, hz0, hz1, hz2⟩ := info_parts info_adecl
  refine ⟨madeCells (.agg #[.int .i64 0, .string ⟨#[]⟩, .int .i64 0, .int .i64 0, .int .i64 0, .slice none 0 0, .slice none 0 0, .int .i64 0, .int .i64 0] : Value).cells (n * 9), by simp [madeCells, kcD], fun u => ?_⟩
  rw [run_make (P := Tryd.prog) u 38 84 i0 (.agg #[.int .i64 0, .string ⟨#[]⟩, .int .i64 0, .int .i64 0, .int .i64 0, .slice none 0 0, .slice none 0 0, .int .i64 0, .int .i64 0]) Tryd.underlying38 hi hz0 .i64 .i64 n n (by omega) (Int.le_refl _) (by rw [hz2]; omega) (by omega), hz1]
  simp
/-- What a copied row answers. -/
def CpRD (es : List DV) (w : World) (r : Ending) (w' : World) : Prop := ∃ A' c', r = .returned (.slice A' es.length c') ∧ DO w' w.heap.size w'.heap.size A' es ∧ Below w.heap.size w w'

theorem Box.frz9 {W : World} {g : Nat} {v0 v1 v2 v3 v4 v5 v6 v7 v8 : Value} (h : Box W g [v0, v1, v2, v3, v4, v5, v6, v7, v8]) : W.frozen? ⟨g, 0, none⟩ = false ∧ W.frozen? ⟨g, 1, none⟩ = false ∧ W.frozen? ⟨g, 2, none⟩ = false ∧ W.frozen? ⟨g, 3, none⟩ = false ∧ W.frozen? ⟨g, 4, none⟩ = false ∧ W.frozen? ⟨g, 5, none⟩ = false ∧ W.frozen? ⟨g, 6, none⟩ = false ∧ W.frozen? ⟨g, 7, none⟩ = false ∧ W.frozen? ⟨g, 8, none⟩ = false := ⟨(h 0 _ rfl).2, (h 1 _ rfl).2, (h 2 _ rfl).2, (h 3 _ rfl).2, (h 4 _ rfl).2, (h 5 _ rfl).2, (h 6 _ rfl).2, (h 7 _ rfl).2, (h 8 _ rfl).2⟩
set_option maxRecDepth 100000 in
set_option maxHeartbeats 8000000 in
theorem cpD1 (e : DV) (hN : dbk1 e ≤ 4000000) (A1 : Option Addr) (c1 : Nat) (A2 : Option Addr) (c2 : Nat) (w : World) (hx1 : RowS w A1 e.ps.length e.ps) (hx2 : SR w A2 e.body) :
    Calls Tryd.prog 75 #[dval e A1 c1 A2 c2] w fun r w' => ∃ B1 d1 B2 d2, r = .returned (dval e B1 d1 B2 d2) ∧ DOC w' e w.heap.size w'.heap.size [.int .i64 e.k, .string ⟨e.x.toArray⟩, .int .i64 e.lo, .int .i64 e.hi, .int .i64 e.sz, .slice B1 e.ps.length d1, .slice B2 e.body.length d2, .int .i64 e.l, .int .i64 e.c] ∧ Below w.heap.size w w' := by
  unfold dbk1 at hN
  unfold dval
  cases e with
  | mk k x lo hi sz ps body l cc =>
  simp only at *
  have q1 := fun w => libClone ⟨x.toArray⟩ (by show x.toArray.size ≤ _; simp; omega) w
  have q2 := Lib.hid (fun W h => cpN ps (by omega) A1 c1 W h)
  have q3 := Lib.hid (fun W h => cpS (sbk body) body (Nat.le_refl _) (by omega) A2 c2 W h)
  unfold CpRN at q2
  unfold CpRS at q3
  have hx := Lib.hid hx1
  have ht := Lib.hid hx2
  have K0 := Lib.hid (TwoB.new w [.int .i64 k, .string ⟨x.toArray⟩, .int .i64 lo, .int .i64 hi, .int .i64 sz, .slice A1 ps.length c1, .slice A2 body.length c2, .int .i64 l, .int .i64 cc] [.int .i64 0, .string ⟨#[]⟩, .int .i64 0, .int .i64 0, .int .i64 0, .slice none 0 0, .slice none 0 0, .int .i64 0, .int .i64 0] 84 84)
  have hsz : Hid (((w.alloc (.cells #[.int .i64 k, .string ⟨x.toArray⟩, .int .i64 lo, .int .i64 hi, .int .i64 sz, .slice A1 ps.length c1, .slice A2 body.length c2, .int .i64 l, .int .i64 cc] 84)).alloc (.cells #[.int .i64 0, .string ⟨#[]⟩, .int .i64 0, .int .i64 0, .int .i64 0, .slice none 0 0, .slice none 0 0, .int .i64 0, .int .i64 0] 84)).heap.size = w.heap.size + 2) := by show _ = _; simp
  have HF : Hid (∀ W a m1 b B1 d1 B2 d2, a ≤ m1 → m1 ≤ b → NO W a m1 B1 ps → SO W m1 b B2 body → DOC W ⟨k, x, lo, hi, sz, ps, body, l, cc⟩ a b [.int .i64 k, .string ⟨x.toArray⟩, .int .i64 lo, .int .i64 hi, .int .i64 sz, .slice B1 ps.length d1, .slice B2 body.length d2, .int .i64 l, .int .i64 cc]) := fun W a m1 b B1 d1 B2 d2 a1 a2 a3 a4 => ⟨B1, d1, B2, d2, m1, rfl, a1, a2, a3, a4⟩
  clear hN hx1 hx2
  generalize (⟨x.toArray⟩ : ByteArray) = xs at *
  generalize ps.length = m1 at *
  generalize body.length = m2 at *
  go_enter Tryd.func75, Tryd.ntmps75
  go_wp2_with fail
  generalize (w.alloc (.cells #[.int .i64 k, .string xs, .int .i64 lo, .int .i64 hi, .int .i64 sz, .slice A1 m1 c1, .slice A2 m2 c2, .int .i64 l, .int .i64 cc] 84)).alloc (.cells #[.int .i64 0, .string ⟨#[]⟩, .int .i64 0, .int .i64 0, .int .i64 0, .slice none 0 0, .slice none 0 0, .int .i64 0, .int .i64 0] 84) = W0 at *
  refine (q1 W0).mono ?_
  rintro e1 w1 ⟨rfl, hb1⟩
  have K1 := Lib.hid (K0.out.step hb1)
  have hs1 : Hid (w.heap.size + 2 ≤ w1.heap.size) := by show _ ≤ _; have := hb1.size; rw [hsz.out] at this; exact this
  clear q1 hb1 K0 hsz
  have a1 := (K1.out.1 1 _ rfl).1
  have b1 := (K1.out.1 1 _ rfl).2
  have kb : Box (w1.setCell ⟨w.heap.size, 1, none⟩ (.string xs)) w.heap.size [.int .i64 k, .string xs, .int .i64 lo, .int .i64 hi, .int .i64 sz, .slice A1 m1 c1, .slice A2 m2 c2, .int .i64 l, .int .i64 cc] := K1.out.1.set 1 (.string xs)
  have kr := K1.out.2.1.far (p := ⟨w.heap.size, 1, none⟩) (show w.heap.size ≠ w.heap.size + 1 by omega) (.string xs)
  have K2 : Hid (TwoB w (w1.setCell ⟨w.heap.size, 1, none⟩ (.string xs)) [.int .i64 k, .string xs, .int .i64 lo, .int .i64 hi, .int .i64 sz, .slice A1 m1 c1, .slice A2 m2 c2, .int .i64 l, .int .i64 cc] [.int .i64 0, .string ⟨#[]⟩, .int .i64 0, .int .i64 0, .int .i64 0, .slice none 0 0, .slice none 0 0, .int .i64 0, .int .i64 0]) := ⟨kb, kr, below_set1 K1.out.2.2 (Nat.le_refl _)⟩
  have a4 := (kb 5 _ rfl).1
  have hs2 : Hid (w.heap.size + 2 ≤ (w1.setCell ⟨w.heap.size, 1, none⟩ (.string xs)).heap.size) := by show _ ≤ _; have := hs1.out; simpa [World.setCell] using this
  clear kb kr
  go_wp2_with fail
  generalize w1.setCell ⟨w.heap.size, 1, none⟩ (.string xs) = W2 at *
  refine (q2.out W2 (hx.out.below K2.out.2.2)).mono ?_
  rintro e2 w2 ⟨B1, d1, rfl, o1, hb2⟩
  have K3 := Lib.hid (K2.out.step hb2)
  have hs2' := hs2.out
  have o1 := Lib.hid (o1.mono hs2' (Nat.le_refl _))
  have hs3 : Hid (w.heap.size + 2 ≤ w2.heap.size) := Nat.le_trans hs2' hb2.size
  clear a1 b1 a4 hb2 K1 hs1 hs2 hs2' K2
  have a2 := (K3.out.1 5 _ rfl).1
  have b2 := (K3.out.1 5 _ rfl).2
  have kb : Box (w2.setCell ⟨w.heap.size, 5, none⟩ (.slice B1 m1 d1)) w.heap.size [.int .i64 k, .string xs, .int .i64 lo, .int .i64 hi, .int .i64 sz, .slice B1 m1 d1, .slice A2 m2 c2, .int .i64 l, .int .i64 cc] := K3.out.1.set 5 (.slice B1 m1 d1)
  have kr := K3.out.2.1.far (p := ⟨w.heap.size, 5, none⟩) (show w.heap.size ≠ w.heap.size + 1 by omega) (.slice B1 m1 d1)
  have K3 : Hid (TwoB w (w2.setCell ⟨w.heap.size, 5, none⟩ (.slice B1 m1 d1)) [.int .i64 k, .string xs, .int .i64 lo, .int .i64 hi, .int .i64 sz, .slice B1 m1 d1, .slice A2 m2 c2, .int .i64 l, .int .i64 cc] [.int .i64 0, .string ⟨#[]⟩, .int .i64 0, .int .i64 0, .int .i64 0, .slice none 0 0, .slice none 0 0, .int .i64 0, .int .i64 0]) := ⟨kb, kr, below_set1 K3.out.2.2 (Nat.le_refl _)⟩
  have o1 : Hid (NO (w2.setCell ⟨w.heap.size, 5, none⟩ (.slice B1 m1 d1)) (w.heap.size + 2) w2.heap.size B1 ps) := o1.out.keep (Kp.set _ _ (Or.inl (by omega)))
  have hsq : Hid ((w2.setCell ⟨w.heap.size, 5, none⟩ (.slice B1 m1 d1)).heap.size = w2.heap.size) := by show _ = _; simp [World.setCell]
  have a4 := (kb 6 _ rfl).1
  clear kb kr
  go_wp2_with fail
  generalize w2.setCell ⟨w.heap.size, 5, none⟩ (.slice B1 m1 d1) = W3 at *
  refine (q3.out W3 (ht.out.step K3.out.2.2)).mono ?_
  rintro e3 w3 ⟨B2, d2, rfl, o2, hb3⟩
  have K4 := Lib.hid (K3.out.step hb3)
  have hn1 := hs3.out
  have hn2 : w2.heap.size ≤ w3.heap.size := by rw [← hsq.out]; exact hb3.size
  have o1 := o1.out.keep (Kp.of_below hb3 (by rw [hsq.out]; exact Nat.le_refl _))
  rw [hsq.out] at o2
  have Y : Box (w3.setCell ⟨w.heap.size, 6, none⟩ (.slice B2 m2 d2)) w.heap.size [.int .i64 k, .string xs, .int .i64 lo, .int .i64 hi, .int .i64 sz, .slice B1 m1 d1, .slice B2 m2 d2, .int .i64 l, .int .i64 cc] := K4.out.1.set 6 (.slice B2 m2 d2)
  have R := K4.out.2.1.far (p := ⟨w.heap.size, 6, none⟩) (show w.heap.size ≠ w.heap.size + 1 by omega) (.slice B2 m2 d2)
  have a5 := (K4.out.1 6 _ rfl).1
  have b5 := (K4.out.1 6 _ rfl).2
  have s5 := Y.nine
  have r5 := R.nine
  obtain ⟨f50, f51, f52, f53, f54, f55, f56, f57, f58⟩ := R.frz9
  have hk : Kp (w.heap.size + 2) w3.heap.size w3 (setL (setL w3 w.heap.size 6 [.slice B2 m2 d2]) (w.heap.size + 1) 0 [.int .i64 k, .string xs, .int .i64 lo, .int .i64 hi, .int .i64 sz, .slice B1 m1 d1, .slice B2 m2 d2, .int .i64 l, .int .i64 cc]) := (setL_kp (Or.inl (by omega)) _ _ _).trans (setL_kp (Or.inl (by omega)) _ _ _)
  have hsz2 : (setL (setL w3 w.heap.size 6 [.slice B2 m2 d2]) (w.heap.size + 1) 0 [.int .i64 k, .string xs, .int .i64 lo, .int .i64 hi, .int .i64 sz, .slice B1 m1 d1, .slice B2 m2 d2, .int .i64 l, .int .i64 cc]).heap.size = w3.heap.size := by rw [setL_size, setL_size]
  have hbl := Lib.hid (setL_below (b := w.heap.size + 1) (Nat.le_succ w.heap.size) [.int .i64 k, .string xs, .int .i64 lo, .int .i64 hi, .int .i64 sz, .slice B1 m1 d1, .slice B2 m2 d2, .int .i64 l, .int .i64 cc] 0 _ (setL_below (b := w.heap.size) (Nat.le_refl w.heap.size) [.slice B2 m2 d2] 6 w3 K4.out.2.2))
  have hfin := Lib.hid ((HF.out _ (w.heap.size + 2) w2.heap.size w3.heap.size B1 d1 B2 d2 hn1 hn2 (o1.keep (hk.mono (Nat.le_refl _) hn2)) (o2.keep (hk.mono hn1 (Nat.le_refl _)))).mono (lo' := w.heap.size) (hi' := (setL (setL w3 w.heap.size 6 [.slice B2 m2 d2]) (w.heap.size + 1) 0 [.int .i64 k, .string xs, .int .i64 lo, .int .i64 hi, .int .i64 sz, .slice B1 m1 d1, .slice B2 m2 d2, .int .i64 l, .int .i64 cc]).heap.size) (by omega) (by rw [hsz2]; exact Nat.le_refl _))
  clear hk hsz2 o1 o2 Y R K4 a2 b2 a4 hb3 hsq K3
  go_wp2_with fail
  obtain ⟨t0, t1, t2, t3, t4, t5, t6, t7, t8⟩ := r5
  refine bodyPost_ret (v := .agg #[.int .i64 k, .string xs, .int .i64 lo, .int .i64 hi, .int .i64 sz, .slice B1 m1 d1, .slice B2 m2 d2, .int .i64 l, .int .i64 cc]) (by simp [results, Tryd.results75, go_sem, t0, t1, t2, t3, t4, t5, t6, t7, t8]) rfl ?_
  exact ⟨B1, d1, B2, d2, rfl, hfin.out, hbl.out⟩

set_option maxRecDepth 100000 in
set_option maxHeartbeats 8000000 in
theorem cpD (es : List DV) (hN : dbk es ≤ 4000000) (A : Option Addr) (c : Nat) (w : World) (hx : DR w A es) : Calls Tryd.prog 74 #[.slice A es.length c, .func (.func 75) #[] #[]] w (CpRD es w) := by
  have hbkl : es.length ≤ dbk es := Nat.le_trans (dsz_len es) (dsz_bk es)
  obtain ⟨n, hn⟩ : ∃ n, n = es.length := ⟨_, rfl⟩
  have hx2 := Lib.hid hx
  have htk : Hid (es.take n = es) := by show _ = _; rw [hn]; exact List.take_length
  rw [← hn] at hbkl ⊢

  have HN := Lib.hid hn
  have hn0 : (0 : Int) ≤ n := by omega
  by_cases h0 : n = 0
  · subst h0
    have hnil : es = [] := List.eq_nil_of_length_eq_zero hn.symm
    clear hn hx
    go_enter Tryd.func74, Tryd.ntmps74
    go_wp2_with fail
    go_ret
    exact ⟨none, 0, by rw [hnil]; rfl, fun h => absurd hnil h, Below.refl _ _⟩
  · have hnz : ((n : Int) == 0) = false := by simp; omega
    obtain ⟨zc, hzc, hmk⟩ := mkD n (by omega)
    have hst0 := Lib.hid (CpSt.start kcD w 84 n zc hzc)
    clear hn hx
    go_enter Tryd.func74, Tryd.ntmps74
    go_wp2_with fail
    clear hmk
    generalize w.alloc (.cells zc 84) = W0 at *
    obtain ⟨ad, had⟩ : ∃ ad, ad = (⟨w.heap.size, 0, none⟩ : Addr) := ⟨_, rfl⟩
    rw [← had]
    replace had := Lib.hid had
    go_loopw [16] (fun u W => ∃ i : Nat, i ≤ n ∧ u = .int .i64 i ∧ Hid (CpSt kcD w w.heap.size 84 n (es.take i) W)) (fun u _ => n - (intOf u).toNat)
    case atStart => exact ⟨0, by omega, rfl, hst0.out⟩
    case round =>
    clear hst0
    obtain ⟨i, hi, rfl, hst⟩ := hrel
    by_cases hlt : i < n
    · have hlt' : (i : Int) < n := by omega
      have hli : Hid ((es.take i).length = i) := by show _ = _; rw [List.length_take, ← HN.out]; omega
      obtain ⟨ad0, e, rfl, he, A1, c1, A2, c2, e0, e1, e2, e3, e4, e5, e6, e7, e8, hx1, hx2'⟩ := (hx2.out.step hst.out.bel).el (i := i) (by rw [← HN.out]; exact hlt)
      have hbk := dbk_get he
      have hHE : Hid (es.take (i + 1) = es.take i ++ [e]) := by show _ = _; rw [List.take_add_one, he]; rfl
      cases e with
      | mk k x lo' hi' sz ps body l cc =>
      unfold dbk1 at hbk
      simp only at *
      have hb1 := Lib.hid (bnew5 wr (.cells #[.int .i64 k, .string ⟨x.toArray⟩, .int .i64 lo', .int .i64 hi', .int .i64 sz, .slice A1 ps.length c1, .slice A2 body.length c2, .int .i64 l, .int .i64 cc] 84))
      have q := cpD1 ⟨k, x, lo', hi', sz, ps, body, l, cc⟩ (by unfold dbk1; simp only; omega) A1 c1 A2 c2 _ (hx1.below hb1.out) (hx2'.step hb1.out)
      have HC : Hid (∀ W lo hi B1 d1 B2 d2, DOC W ⟨k, x, lo', hi', sz, ps, body, l, cc⟩ lo hi [.int .i64 k, .string ⟨x.toArray⟩, .int .i64 lo', .int .i64 hi', .int .i64 sz, .slice B1 ps.length d1, .slice B2 body.length d2, .int .i64 l, .int .i64 cc] → kcD.CO W ⟨k, x, lo', hi', sz, ps, body, l, cc⟩ lo hi [.int .i64 k, .string ⟨x.toArray⟩, .int .i64 lo', .int .i64 hi', .int .i64 sz, .slice B1 ps.length d1, .slice B2 body.length d2, .int .i64 l, .int .i64 cc]) := fun W lo hi B1 d1 B2 d2 h => h
      unfold dval at q
      simp only at q
      clear he hbk hx1 hx2'
      generalize ps.length = m1 at *
      generalize body.length = m2 at *
      generalize (⟨x.toArray⟩ : ByteArray) = xs at *
      go_wp2_with fail
      refine q.mono ?_
      rintro ee w1 ⟨B1, d1, B2, d2, rfl, o1, hb2⟩
      have hst2 := Lib.hid (hst.out.step (bth5 hb1.out hb2))
      have hnew := Lib.hid (hst.out.put (by rw [hli.out]; exact hlt) (bth5 hb1.out hb2) (HC.out w1 _ _ B1 d1 B2 d2 (o1.mono hb1.out.size (Nat.le_refl _))) (o := i * 9) (by rw [hli.out]; rfl))
      have hadi : ad.add (i * 9) = ⟨w.heap.size, i * 9, none⟩ := by rw [had.out, add_at, Nat.zero_add]
      obtain ⟨z0, g0⟩ := (hst2.out.cells (by rw [hli.out]; exact hlt) (j := 0) (by decide)).1
      have f0 := (hst2.out.cells (by rw [hli.out]; exact hlt) (j := 0) (by decide)).2
      replace g0 : w1.cell? ⟨w.heap.size, i * 9, none⟩ = some z0 := by rw [hli.out] at g0; exact g0
      replace f0 : w1.frozen? ⟨w.heap.size, i * 9, none⟩ = false := by rw [hli.out] at f0; exact f0
      obtain ⟨z1, g1⟩ := (hst2.out.cells (by rw [hli.out]; exact hlt) (j := 1) (by decide)).1
      have f1 := (hst2.out.cells (by rw [hli.out]; exact hlt) (j := 1) (by decide)).2
      replace g1 : w1.cell? ⟨w.heap.size, i * 9 + 1, none⟩ = some z1 := by rw [hli.out] at g1; exact g1
      replace f1 : w1.frozen? ⟨w.heap.size, i * 9 + 1, none⟩ = false := by rw [hli.out] at f1; exact f1
      obtain ⟨z2, g2⟩ := (hst2.out.cells (by rw [hli.out]; exact hlt) (j := 2) (by decide)).1
      have f2 := (hst2.out.cells (by rw [hli.out]; exact hlt) (j := 2) (by decide)).2
      replace g2 : w1.cell? ⟨w.heap.size, i * 9 + 2, none⟩ = some z2 := by rw [hli.out] at g2; exact g2
      replace f2 : w1.frozen? ⟨w.heap.size, i * 9 + 2, none⟩ = false := by rw [hli.out] at f2; exact f2
      obtain ⟨z3, g3⟩ := (hst2.out.cells (by rw [hli.out]; exact hlt) (j := 3) (by decide)).1
      have f3 := (hst2.out.cells (by rw [hli.out]; exact hlt) (j := 3) (by decide)).2
      replace g3 : w1.cell? ⟨w.heap.size, i * 9 + 3, none⟩ = some z3 := by rw [hli.out] at g3; exact g3
      replace f3 : w1.frozen? ⟨w.heap.size, i * 9 + 3, none⟩ = false := by rw [hli.out] at f3; exact f3
      obtain ⟨z4, g4⟩ := (hst2.out.cells (by rw [hli.out]; exact hlt) (j := 4) (by decide)).1
      have f4 := (hst2.out.cells (by rw [hli.out]; exact hlt) (j := 4) (by decide)).2
      replace g4 : w1.cell? ⟨w.heap.size, i * 9 + 4, none⟩ = some z4 := by rw [hli.out] at g4; exact g4
      replace f4 : w1.frozen? ⟨w.heap.size, i * 9 + 4, none⟩ = false := by rw [hli.out] at f4; exact f4
      obtain ⟨z5, g5⟩ := (hst2.out.cells (by rw [hli.out]; exact hlt) (j := 5) (by decide)).1
      have f5 := (hst2.out.cells (by rw [hli.out]; exact hlt) (j := 5) (by decide)).2
      replace g5 : w1.cell? ⟨w.heap.size, i * 9 + 5, none⟩ = some z5 := by rw [hli.out] at g5; exact g5
      replace f5 : w1.frozen? ⟨w.heap.size, i * 9 + 5, none⟩ = false := by rw [hli.out] at f5; exact f5
      obtain ⟨z6, g6⟩ := (hst2.out.cells (by rw [hli.out]; exact hlt) (j := 6) (by decide)).1
      have f6 := (hst2.out.cells (by rw [hli.out]; exact hlt) (j := 6) (by decide)).2
      replace g6 : w1.cell? ⟨w.heap.size, i * 9 + 6, none⟩ = some z6 := by rw [hli.out] at g6; exact g6
      replace f6 : w1.frozen? ⟨w.heap.size, i * 9 + 6, none⟩ = false := by rw [hli.out] at f6; exact f6
      obtain ⟨z7, g7⟩ := (hst2.out.cells (by rw [hli.out]; exact hlt) (j := 7) (by decide)).1
      have f7 := (hst2.out.cells (by rw [hli.out]; exact hlt) (j := 7) (by decide)).2
      replace g7 : w1.cell? ⟨w.heap.size, i * 9 + 7, none⟩ = some z7 := by rw [hli.out] at g7; exact g7
      replace f7 : w1.frozen? ⟨w.heap.size, i * 9 + 7, none⟩ = false := by rw [hli.out] at f7; exact f7
      obtain ⟨z8, g8⟩ := (hst2.out.cells (by rw [hli.out]; exact hlt) (j := 8) (by decide)).1
      have f8 := (hst2.out.cells (by rw [hli.out]; exact hlt) (j := 8) (by decide)).2
      replace g8 : w1.cell? ⟨w.heap.size, i * 9 + 8, none⟩ = some z8 := by rw [hli.out] at g8; exact g8
      replace f8 : w1.frozen? ⟨w.heap.size, i * 9 + 8, none⟩ = false := by rw [hli.out] at f8; exact f8
      clear q
      go_wp2_with fail
      have hW : (((((((((w1.setCell ⟨w.heap.size, i * 9, none⟩ (.int .i64 k)).setCell ⟨w.heap.size, i * 9 + 1, none⟩ (.string xs)).setCell ⟨w.heap.size, i * 9 + 2, none⟩ (.int .i64 lo')).setCell ⟨w.heap.size, i * 9 + 3, none⟩ (.int .i64 hi')).setCell ⟨w.heap.size, i * 9 + 4, none⟩ (.int .i64 sz)).setCell ⟨w.heap.size, i * 9 + 5, none⟩ (.slice B1 m1 d1)).setCell ⟨w.heap.size, i * 9 + 6, none⟩ (.slice B2 m2 d2)).setCell ⟨w.heap.size, i * 9 + 7, none⟩ (.int .i64 l)).setCell ⟨w.heap.size, i * 9 + 8, none⟩ (.int .i64 cc)) = setL w1 w.heap.size (i * 9) [.int .i64 k, .string xs, .int .i64 lo', .int .i64 hi', .int .i64 sz, .slice B1 m1 d1, .slice B2 m2 d2, .int .i64 l, .int .i64 cc] := rfl
      first | rw [hW] | skip
      exact ⟨⟨i + 1, by omega, by go_num, by rw [hHE.out]; exact hnew.out⟩, by simp [intOf]; omega⟩
    · obtain rfl : i = n := by omega
      have hlt' : ¬ (i : Int) < i := by omega
      have hst := hst.out
      rw [htk.out] at hst
      have hst := Lib.hid hst
      go_wp2_with fail
      go_ret
      obtain ⟨vs, k1, k2, k3, k4⟩ := hst.out.fin HN.out.symm
      exact ⟨some ad, i, by rw [← HN.out]; rfl, fun _ => ⟨w.heap.size, vs, 84, by rw [had.out], k1, k2, k3, k4⟩, hst.out.bel⟩

set_option maxRecDepth 100000 in
set_option maxHeartbeats 8000000 in
theorem astCopy (ds : List DV) (mn : List SV) (hs : sbk mn + dbk ds ≤ 4000000) (A : Option Addr) (ca : Nat) (B : Option Addr) (cb : Nat) (w : World) (hx : DR w A ds) (hy : SR w B mn) : Calls Tryd.prog 33 #[pval A ds.length ca B mn.length cb] w fun r w' => ∃ B1 d1 B2 d2 m1, r = .returned (pval B1 ds.length d1 B2 mn.length d2) ∧ w.heap.size ≤ m1 ∧ m1 ≤ w'.heap.size ∧ DO w' w.heap.size m1 B1 ds ∧ SO w' m1 w'.heap.size B2 mn ∧ Below w.heap.size w w' := by
  unfold pval
  have q1 := Lib.hid (fun W h => cpD ds (by omega) A ca W h)
  have q2 := Lib.hid (fun W h => cpS (sbk mn) mn (Nat.le_refl _) (by omega) B cb W h)
  unfold CpRD at q1
  unfold CpRS at q2
  have hX := Lib.hid hx
  have hY := Lib.hid hy
  generalize ds.length = n at *
  generalize mn.length = m at *
  have K0 := Lib.hid ((TwoB.new w [.slice A n ca, .slice B m cb] [.slice none 0 0, .slice none 0 0] 41 41).step (Below.refl _ _).drew)
  have hsz : Hid (((w.alloc (.cells #[.slice A n ca, .slice B m cb] 41)).alloc (.cells #[.slice none 0 0, .slice none 0 0] 41)).drew.heap.size = w.heap.size + 2) := by show _ = _; simp
  clear hx hy hs
  go_enter Tryd.func33, Tryd.ntmps33
  go_wp2_with fail
  generalize (w.alloc (.cells #[.slice A n ca, .slice B m cb] 41)).alloc (.cells #[.slice none 0 0, .slice none 0 0] 41) = W0 at *
  have s0 := K0.out.1.two
  have p1 := q1.out W0.drew (hX.out.step K0.out.2.2)
  go_region_held3 (fun w' => w'.cell? ⟨w.heap.size, 0, none⟩ = some (.slice A n ca) ∧ w'.cell? ⟨w.heap.size, 1, none⟩ = some (.slice B m cb)) (first | with_reducible exact s0 | with_reducible exact s1 | with_reducible exact s2 | with_reducible exact s3)
    (first
      | (go_at_call 74
         with_reducible refine p1.mono ?_
         rintro e1 w1 ⟨B1, d1, rfl, o1, hb1⟩
         have K1 := Lib.hid (K0.out.step hb1)
         have s1 := K1.out.1.two
         have hn1 : Hid (w.heap.size + 2 ≤ w1.heap.size) := by show _ ≤ _; have := hb1.size; rw [hsz.out] at this; exact this
         have o1 := Lib.hid (o1.mono (lo' := w.heap.size + 2) (by rw [hsz.out]; exact Nat.le_refl _) (Nat.le_refl _))
         have p2 := q2.out w1 (hY.out.step K1.out.2.2))
      | (go_at_call 76
         with_reducible refine p2.mono ?_
         rintro e2 w2 ⟨B2, d2, rfl, o2, hb2⟩
         have K2 := Lib.hid (K1.out.step hb2)
         have s2 := K2.out.1.two
         have s3 := ((K2.out.1.far (p := ⟨w.heap.size + 1, 0, none⟩) (show w.heap.size + 1 ≠ w.heap.size by omega) (.slice B1 n d1)).far (p := ⟨w.heap.size + 1, 1, none⟩) (show w.heap.size + 1 ≠ w.heap.size by omega) (.slice B2 m d2)).two
         have hn2 : Hid (w1.heap.size ≤ w2.heap.size) := hb2.size
         have o1 := Lib.hid (o1.out.keep (Kp.of_below hb2 (Nat.le_refl _)))
         have o2 := Lib.hid o2
         have r2 := K2.out.2.1.two
         have f0 := (K2.out.2.1 0 _ rfl).2
         have f1 := (K2.out.2.1 1 _ rfl).2))
  have hh1 := hn1.out
  have hh2 := hn2.out
  have hW : (w2.setCell ⟨w.heap.size + 1, 0, none⟩ (.slice B1 n d1)).setCell ⟨w.heap.size + 1, 1, none⟩ (.slice B2 m d2) = setL w2 (w.heap.size + 1) 0 [.slice B1 n d1, .slice B2 m d2] := rfl
  have hz2 : (setL w2 (w.heap.size + 1) 0 [.slice B1 n d1, .slice B2 m d2]).heap.size = w2.heap.size := setL_size _ _ _ _
  have h1 := Lib.hid ((o1.out.keep (setL_kp (b := w.heap.size + 1) (Or.inl (by omega)) [.slice B1 n d1, .slice B2 m d2] 0 w2)).mono (lo' := w.heap.size) (by omega) (Nat.le_refl _))
  have h2 := Lib.hid ((o2.out.keep (setL_kp (b := w.heap.size + 1) (Or.inl (by omega)) [.slice B1 n d1, .slice B2 m d2] 0 w2)))
  have h3 := Lib.hid (setL_below (b := w.heap.size + 1) (Nat.le_succ w.heap.size) [.slice B1 n d1, .slice B2 m d2] 0 w2 K2.out.2.2)
  rw [← hz2] at h2 hh2
  have hh3 := Lib.hid (And.intro (show w.heap.size ≤ w1.heap.size by omega) hh2)
  clear o1 o2 hn1 hn2 hh1 hh2 hz2 s3
  go_wp2_with fail
  rw [hW]
  refine bodyPost_ret (v := .agg #[.slice B1 n d1, .slice B2 m d2]) (by rw [← hW]; simp [results, Tryd.results33, go_sem, r2.1, r2.2]) rfl ?_
  exact ⟨B1, d1, B2, d2, w1.heap.size, rfl, hh3.out.1, hh3.out.2, h1.out, h2.out, h3.out⟩
end
end Go.Proofs.YtkmioieanopafaaDoor
