/- The contracts of deci's divide and Div. -/
import Derived.Test.YthcglobehoaocaaDoorDivC
import Derived.Test.YthcglobehoaocaaDoorNatF
namespace Go.Proofs.YthcglobehoaocaaDoor
open Go.RowKit

set_option maxHeartbeats 1000000 in
theorem divide (base g n c y : Nat) (l : List Nat) (w : World) (hown : Own w base 23 .u64 (some ⟨g, 0, none⟩) n c l) (bl : Dig.Below LB l) (hy : 0 < y) (hyl : y < LB) (hn : n ≤ 1000000000000) :
    Calls Tryd.prog 35 #[.slice (some ⟨g, 0, none⟩) n c, .int .u64 y] w fun e w' => e = .returned (.int .u64 ((dvd y l).2 : Nat)) ∧ Own w' base 23 .u64 (some ⟨g, 0, none⟩) n c (dvd y l).1 ∧ w.grownBy w' (some g) := by
  have hl := Lib.hid hown.len
  have hcap := Lib.hid hown.cap
  have hst0 : Hid (Own w base 23 .u64 (some ⟨g, 0, none⟩) n c l ∧ w.grownBy w (some g)) := ⟨hown, World.grownBy.refl w _⟩
  clear hown
  go_enter Tryd.func35, Tryd.ntmps35
  go_wp2_with fail
  go_loopw [4, 5] (fun rv iv wr => ∃ z : Int, -1 ≤ z ∧ z < n ∧ iv = .int .i64 z ∧ rv = .int .u64 ((dvd y (l.drop (z + 1).toNat)).2 : Nat) ∧ Hid (Own wr base 23 .u64 (some ⟨g, 0, none⟩) n c (l.take (z + 1).toNat ++ (dvd y (l.drop (z + 1).toNat)).1) ∧ w.grownBy wr (some g))) (fun _ iv _ => (intOf iv + 1).toNat)
  case atStart =>
    refine ⟨(n : Int) - 1, by omega, by omega, rfl, ?_, ?_⟩
    · rw [show ((n : Int) - 1 + 1).toNat = n by omega, List.drop_of_length_le (by have := hl.out; omega)]; rfl
    · rw [show ((n : Int) - 1 + 1).toNat = n by omega, List.drop_of_length_le (by have := hl.out; omega), List.take_of_length_le (by have := hl.out; omega)]
      simpa [dvd] using hst0
  case round =>
    obtain ⟨z, hz1, hz2, rfl, rfl, hst⟩ := hrel
    by_cases hz : 0 ≤ z
    · obtain ⟨j, rfl⟩ := Int.eq_ofNat_of_zero_le hz
      have hst' : Hid (Own wr base 23 .u64 (some ⟨g, 0, none⟩) n c (l.take (j + 1) ++ (dvd y (l.drop (j + 1))).1) ∧ w.grownBy wr (some g)) := hst
      have hjl : j < l.length := by have := hl.out; omega
      obtain ⟨hcell, hfro⟩ := hst'.out.1.cellAt (i := j) (by omega)
      rw [dvd_cell hjl] at hcell
      have hq := fun w => div64 (dvd y (l.drop (j + 1))).2 (Dig.at_ l j) y w hyl (Dig.at_below LB_pos bl j) (dvd_lt hy _)
      rw [dvd_rest hjl] at hq
      have hnew : Hid (Own (wr.setCell ⟨g, j, none⟩ (.int .u64 ((((dvd y (l.drop (j + 1))).2 * LB + Dig.at_ l j) / y : Nat) : Int))) base 23 .u64 (some ⟨g, 0, none⟩) n c (l.take j ++ (dvd y (l.drop j)).1) ∧ w.grownBy (wr.setCell ⟨g, j, none⟩ (.int .u64 ((((dvd y (l.drop (j + 1))).2 * LB + Dig.at_ l j) / y : Nat) : Int))) (some g)) := by
        refine ⟨?_, ?_⟩
        · rw [← dvd_at hjl]; exact hst'.out.1.set_ (by omega) _
        · have hg1 := hst'.out.2
          exact ⟨hg1.os, hg1.tape, hg1.output, by simpa [World.setCell] using hg1.size, fun i hi hne => (Below.heap_setCell _ _ _ i (fun e => hne (by simp at e; rw [e]))).trans (hg1.block i hi hne)⟩
      have hjn : j < n := by omega
      have e1 : ((j : Int) + 1).toNat = j + 1 := by omega
      rw [e1] at *
      clear hst hst' hst0 bl hz hz1 hz2 e1
      generalize ((dvd y (l.drop (j + 1))).2 * LB + Dig.at_ l j) / y = q at *
      generalize (dvd y (l.drop (j + 1))).2 = r at *
      have hr2 : Hid ((dvd y (l.drop j)).2 = (dvd y (l.drop ((j : Int) - 1 + 1).toNat)).2) := by show _ = _; rw [show ((j : Int) - 1 + 1).toNat = j by omega]
      generalize (dvd y (l.drop j)).2 = r2 at *
      go_wp2_with (go_at_call 55; refine (hq _).mono ?_; rintro e w' ⟨rfl, m, rfl⟩)
      refine ⟨⟨(j : Int) - 1, by omega, by omega, by go_num, by rw [hr2.out], ?_⟩, by simp [intOf]⟩
      rw [show ((j : Int) - 1 + 1).toNat = j by omega]
      exact ⟨hnew.out.1, grownBy_drewN hnew.out.2 _⟩
    · obtain rfl : z = -1 := by omega
      obtain ⟨h1, h2⟩ := hst.out
      simp only [show ((-1 : Int) + 1).toNat = 0 by omega, List.take_zero, List.drop_zero, List.nil_append] at h1 ⊢
      go_wp2_with fail
      go_ret
      exact ⟨rfl, h1, h2⟩

theorem below_grown {base g : Nat} {w w' : World} (h : w.grownBy w' (some g)) (hb : base ≤ g) (hw : base ≤ w.heap.size) : Below base w w' :=
  (Below.refl _ _).grown h hw (fun k hk => by injection hk with hk; omega)

/-- The same, of any row of the call's own, also of none. -/
theorem divideAny (base n c y : Nat) (A : Option Addr) (l : List Nat) (w : World) (hown : Own w base 23 .u64 A n c l) (bl : Dig.Below LB l) (hy : 0 < y) (hyl : y < LB) (hn : n ≤ 1000000000000) (hbw : base ≤ w.heap.size) :
    Calls Tryd.prog 35 #[.slice A n c, .int .u64 y] w fun e w' => e = .returned (.int .u64 ((dvd y l).2 : Nat)) ∧ Own w' base 23 .u64 A n c (dvd y l).1 ∧ Below base w w' := by
  rcases hown.2 with ⟨hv, h0⟩ | ⟨g, cap, cur, hv, hg, _⟩
  · injection hv with e1 e2 e3
    subst e1 e2 e3
    have hl : l = [] := List.eq_nil_of_length_eq_zero hown.len.symm
    subst hl
    go_enter Tryd.func35, Tryd.ntmps35
    go_wp2_with fail
    go_loopw [4, 5] (fun rv iv wr => iv = .int .i64 (-1) ∧ rv = .int .u64 0 ∧ w = wr) (fun _ iv _ => (intOf iv + 1).toNat)
    case atStart => exact ⟨rfl, rfl, rfl⟩
    case round =>
      obtain ⟨rfl, rfl, rfl⟩ := hrel
      go_wp2_with fail
      go_ret
      exact ⟨rfl, hown, Below.refl _ _⟩
  · injection hv with e1 e2 e3
    subst e1 e3
    exact (divide base g n c y l w hown bl hy hyl hn).mono fun e w' ⟨h1, h2, h3⟩ => ⟨h1, h2, below_grown h3 hg hbw⟩

set_option maxHeartbeats 1000000 in
theorem deciDiv {A : Option Addr} {n c N b : Nat} {w : World} (y : Nat) (h : Num w b A n c N) (hy : 0 < y) (hyl : y < LB) (hn : n ≤ 100000000000) :
    Calls Tryd.prog 13 #[.agg #[.slice A n c], .int .u64 y] w fun e w' => ∃ A1 n1 c1, e = .returned (.tuple #[.agg #[.slice A1 n1 c1], .int .u64 ((N % y : Nat) : Int), .int .i64 0]) ∧ Num w' w.heap.size A1 n1 c1 (N / y) ∧ n1 ≤ n ∧ Below w.heap.size w w' := by
  obtain ⟨l, h1, h2, h3, h4, h5, h6, h7, h8⟩ := h
  have hyz : ((y : Int) == 0) = false := by simp; omega
  obtain ⟨d1, d2⟩ := dvd_div hy l
  rw [h4] at d1 d2
  have hd1 := Lib.hid d1
  have hd2 := Lib.hid d2
  have bl := Lib.hid h3
  have hb0 : Below w.heap.size w ((w.alloc (.cells #[.slice A n c] 26)).alloc (.cells #[.slice none 0 0] 26)) := by go_grown
  have hr0 : Row ((w.alloc (.cells #[.slice A n c] 26)).alloc (.cells #[.slice none 0 0] 26)) ((w.alloc (.cells #[.slice A n c] 26)).alloc (.cells #[.slice none 0 0] 26)).heap.size .u64 A n l := (h1.below hb0).more hb0.size
  have hH := Lib.hid h2
  clear d1 d2 h1 h2 h3 h4 h7 h8
  go_enter Tryd.func13, Tryd.ntmps13
  go_wp2_with fail
  refine (natAll A n c l _ hr0 h5 (by omega)).mono ?_
  rintro e w1 ⟨A1, c1, rfl, hown1, hb1, _⟩
  have hs0 : w.heap.size + 2 = ((w.alloc (.cells #[.slice A n c] 26)).alloc (.cells #[.slice none 0 0] 26)).heap.size := by simp
  obtain ⟨hc1, hf1⟩ := bcell1 (b := w.heap.size + 1) (o := 0) hb1 (v := .slice none 0 0) (by simp [go_sem]) (by simp [go_sem])
  generalize (w.alloc (.cells #[.slice A n c] 26)).alloc (.cells #[.slice none 0 0] 26) = W at *
  have hs1 := hb1.size
  go_wp2_with fail
  refine (divideAny W.heap.size n c1 y A1 l _ hown1 bl.out hy hyl (by omega) hs1).mono ?_
  rintro e w2 ⟨rfl, hown2, hb2⟩
  have hs2 := hb2.size
  have hb2' : Below W.heap.size W w2 := hb1.trans hb2
  obtain ⟨hc2, hf2⟩ : w2.cell? ⟨w.heap.size + 1, 0, none⟩ = some (.slice none 0 0) ∧ w2.frozen? ⟨w.heap.size + 1, 0, none⟩ = false :=
    ⟨(hb2.cell (p := ⟨w.heap.size + 1, 0, none⟩) (by simp; omega)).trans hc1, (hb2.frozen (p := ⟨w.heap.size + 1, 0, none⟩) (by simp; omega)).trans hf1⟩
  go_wp2_with fail
  refine (natLimbs A1 n c1 (dvd y l).1 _ hown2.row (dvd_below hy bl.out) hown2.cap.1 hown2.cap.2 (by omega)).mono ?_
  rintro e w3 ⟨A3, n3, c3, rfl, hnum3, hn3, hb3⟩
  obtain ⟨hc3, hf3⟩ := bcell1 hb3 hc2 hf2
  have hs3 := hb3.size
  have hw2 : W.heap.size ≤ w2.heap.size := Nat.le_trans hs1 hs2
  go_wp2_with fail
  refine bodyPost_ret (v := .tuple #[.agg #[.slice A3 n3 c3], .int .u64 ((N % y : Nat) : Int), .int .i64 0]) (by simp [results, Tryd.results13, go_sem, hc3, hd2.out]) rfl ?_
  rw [hd1.out] at hnum3
  refine ⟨A3, n3, c3, rfl, ((hnum3.mono (base' := w.heap.size + 2) (by omega)).setCell (by simp) _).mono (by omega), hn3, ((hb0.trans (hb2'.mono (by omega))).trans (hb3.mono (by omega))).setCell (by simp) _⟩

set_option maxHeartbeats 400000 in
theorem deciDiv_zero (A : Option Addr) (n c : Nat) (w : World) :
    Calls Tryd.prog 13 #[.agg #[.slice A n c], .int .u64 0] w fun e w' => e = .returned (.tuple #[.agg #[.slice none 0 0], .int .u64 0, .int .i64 2]) ∧ Below w.heap.size w w' := by
  have hb0 : Below w.heap.size w ((w.alloc (.cells #[.slice A n c] 26)).alloc (.cells #[.slice none 0 0] 26)) := by go_grown
  go_enter Tryd.func13, Tryd.ntmps13
  go_wp2_with fail
  refine bodyPost_ret (v := .tuple #[.agg #[.slice none 0 0], .int .u64 0, .int .i64 2]) (by simp [results, Tryd.results13, go_sem]) rfl ?_
  exact ⟨rfl, hb0⟩
end Go.Proofs.YthcglobehoaocaaDoor
