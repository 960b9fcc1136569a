/- The contract of the reference's division. -/
import Derived.Test.YthcglobehoaocaaDoorRefG
import Derived.Test.YthcglobehoaocaaDoorNatC
namespace Go.Proofs.YthcglobehoaocaaDoor
open Go.RowKit

theorem run_mkU8 (n : Nat) (hn : n ≤ 281474976710656) (u : World) : (Instr.makeSlice 29 (.int .i64 n) (.int .i64 n)).run Tryd.prog u =
    .ok (.slice (some ⟨u.heap.size, 0, none⟩) n n) (u.alloc (.cells (ints .u8 (List.replicate n 0)).toArray 5)) := by
  obtain ⟨i0, hi, hz0, hz1, hz2⟩ := info_parts info_u8
  have h := run_make (P := Tryd.prog) u 29 5 i0 (.int .u8 0) Tryd.underlying29 hi hz0 .i64 .i64 n n (by omega) (Int.le_refl _) (by rw [hz2]; omega) (by omega)
  rw [h, ints_zeros, hz1]
  simp [Value.cells, madeCells_one]

/-- What stands in memory while the division runs. -/
structure DS (w : World) (A : Option Addr) (n : Nat) (l L : List Nat) (wr : World) : Prop where
  row : Row wr w.heap.size .u8 A n l
  made : Blk wr w.heap.size 5 .u8 L
  below : Below w.heap.size w wr
theorem DS.stored {w : World} {A : Option Addr} {n : Nat} {l L : List Nat} {wr : World} (h : DS w A n l L wr) (p x : Nat) : DS w A n l (L.set p x) (wr.setCell ⟨w.heap.size, p, none⟩ (.int .u8 (x : Int))) :=
  ⟨Reads.setCell h.row (Nat.le_refl _) _, h.made.set_ p x, h.below.setCell (Nat.le_refl _) _⟩

/-- One round of the inner loop, as the walk meets it. -/
theorem digit_facts (r x y k : Nat) (hr : r < y) (hx : x < 256) (hy : y < LB) (hk : k < 8) {li di xi yi : Int} (e1 : li = ((topBits r x k % y : Nat) : Int)) (e2 : di = ((128 / 2 ^ k : Nat) : Int)) (e3 : xi = (x : Int)) (e4 : yi = (y : Int)) :
    ∃ q b m1 m2 l' o o' d' : Int, 0 < di ∧ di ≤ 128 ∧ 0 ≤ li ∧ li < yi ∧ xi.tdiv di = q ∧ 0 ≤ q ∧ q ≤ 255 ∧ q % 2 = b ∧ 0 ≤ b ∧ b ≤ 1 ∧ IntKind.u64.wrap (li * 2) = m1 ∧ IntKind.u64.wrap (m1 + b) = m2 ∧ IntKind.u64.wrap (m2 - yi) = l' ∧ di.tdiv 2 = d' ∧ 0 ≤ d' ∧ d' ≤ 64 ∧ Hid (d' = ((128 / 2 ^ (k + 1) : Nat) : Int)) ∧
      Hid (o = ((topBits r x k / y * 2 ^ (8 - k) : Nat) : Int)) ∧ IntKind.u8.wrap (o + di) = o' ∧ 0 ≤ o ∧ o < 256 ∧
      ((9223372036854775808 ≤ li ∧ Hid (l' = ((topBits r x (k + 1) % y : Nat) : Int) ∧ o' = ((topBits r x (k + 1) / y * 2 ^ (8 - (k + 1)) : Nat) : Int))) ∨
       (¬ 9223372036854775808 ≤ li ∧ yi ≤ m2 ∧ Hid (l' = ((topBits r x (k + 1) % y : Nat) : Int) ∧ o' = ((topBits r x (k + 1) / y * 2 ^ (8 - (k + 1)) : Nat) : Int))) ∨
       (¬ 9223372036854775808 ≤ li ∧ ¬ yi ≤ m2 ∧ Hid (m2 = ((topBits r x (k + 1) % y : Nat) : Int) ∧ o = ((topBits r x (k + 1) / y * 2 ^ (8 - (k + 1)) : Nat) : Int)))) := by
  obtain ⟨s1, s2⟩ := bit_step r x y k hr hk
  have hb := bits_lt r x y k hr hx (by omega)
  have hb' := bits_lt r x y (k + 1) hr hx (by omega)
  have hm := Nat.mod_lt (topBits r x k) (show 0 < y by omega)
  have hp : (2 : Nat) ^ (7 - k) ≤ 128 := by
    have h : ∀ k : Fin 8, 2 ^ (7 - k.val) ≤ 128 := by decide
    exact h ⟨k, hk⟩
  have hp0 := Nat.two_pow_pos (7 - k)
  have hdv := Nat.div_le_self x (2 ^ (7 - k))
  have hnext : 128 / 2 ^ (k + 1) = 128 / 2 ^ k / 2 := by rw [Nat.pow_succ, Nat.div_div_eq_div_mul]
  have h128 := half128 k hk
  have hbit : x / 2 ^ (7 - k) % 2 < 2 := Nat.mod_lt _ (by omega)
  rw [hnext]
  rw [h128] at e2 s1 ⊢
  have hxd : xi.tdiv di = ((x / 2 ^ (7 - k) : Nat) : Int) := by rw [e2, e3]; rfl
  have hd2 : di.tdiv 2 = ((2 ^ (7 - k) / 2 : Nat) : Int) := by rw [e2]; rfl
  generalize hT : topBits r x k % y = m at *
  generalize topBits r x (k + 1) % y = m' at *
  generalize topBits r x k / y * 2 ^ (8 - k) = u at *
  generalize topBits r x (k + 1) / y * 2 ^ (8 - (k + 1)) = u' at *
  generalize hP : 2 ^ (7 - k) = p at *
  generalize x / p = z at *
  unfold LB at hy
  refine ⟨_, _, _, _, _, _, _, _, by omega, by omega, by omega, by omega, hxd, by omega, by omega, rfl, by omega, by omega, rfl, rfl, rfl, hd2, by omega, by omega, rfl, (show (u : Int) = (u : Int) from rfl), rfl, by omega, by omega, ?_⟩
  simp only [IntKind.wrap_u64, IntKind.wrap_u8]
  rcases Nat.lt_or_ge m 9223372036854775808 with h | h
  · rcases Nat.lt_or_ge (2 * m + z % 2) y with h2 | h2
    · obtain ⟨t1, t2⟩ := s2 h2
      exact .inr (.inr ⟨by omega, by omega, by show _ ∧ _; omega⟩)
    · obtain ⟨t1, t2⟩ := s1 h2
      exact .inr (.inl ⟨by omega, by omega, by show _ ∧ _; omega⟩)
  · obtain ⟨t1, t2⟩ := s1 (by omega)
    exact .inl ⟨by omega, by show _ ∧ _; omega⟩

set_option maxHeartbeats 2000000 in
theorem refDiv_rows (A : Option Addr) (n c y : Nat) (l : List Nat) (w : World) (h1 : Row w w.heap.size .u8 A n l) (bl : Dig.Below 256 l) (hy : 0 < y) (hyl : y < LB) (hn : n ≤ 10000) :
    Calls Tryd.prog 12 #[.slice A n c, .int .u64 y] w fun e w' => ∃ A1 n1 c1, e = .returned (.tuple #[.slice A1 n1 c1, .int .u64 ((Dig.val 256 l % y : Nat) : Int), .int .i64 0]) ∧ RNum w' w.heap.size A1 n1 c1 (Dig.val 256 l / y) ∧ n1 ≤ n + 7 ∧ Below w.heap.size w w' := by
  have hl := Lib.hid h1.len
  obtain ⟨yi, hyi⟩ : ∃ yi : Int, yi = (y : Int) := ⟨_, rfl⟩
  have hyz : (yi == 0) = false := by simp; omega
  have HY := Lib.hid hyi
  rw [← hyi]
  have hmk := fun u => run_mkU8 n (by omega) u
  have hst0 : Hid (DS w A n l (List.replicate n 0) (w.alloc (.cells (ints .u8 (List.replicate n 0)).toArray 5))) :=
    ⟨h1.alloc (Nat.le_refl _) _, Blk.made _ _ _ _, (Below.refl _ _).alloc (Nat.le_refl _) _⟩
  clear hyi h1
  go_enter Tryd.func12, Tryd.ntmps12
  go_wp2_with fail
  clear hmk
  go_loopw [8, 9] (fun lv iv wr => ∃ z li : Int, -1 ≤ z ∧ z < n ∧ iv = .int .i64 z ∧ lv = .int .u64 li ∧ Hid (li = (((bdv y (l.drop (z + 1).toNat)).2 : Nat) : Int)) ∧ Hid (DS w A n l (List.replicate (z + 1).toNat 0 ++ (bdv y (l.drop (z + 1).toNat)).1) wr)) (fun _ iv _ => (intOf iv + 1).toNat)
  case atStart =>
    refine ⟨(n : Int) - 1, 0, by omega, by omega, rfl, rfl, ?_, ?_⟩
    · rw [show ((n : Int) - 1 + 1).toNat = n by omega, List.drop_of_length_le (by have := hl.out; omega)]; rfl
    · rw [show ((n : Int) - 1 + 1).toNat = n by omega, List.drop_of_length_le (by have := hl.out; omega)]
      simpa [bdv] using hst0
  case round =>
    obtain ⟨z, li, hz1, hz2, rfl, rfl, hli, hst⟩ := hrel
    clear hst0
    by_cases hz : 0 ≤ z
    · obtain ⟨j, rfl⟩ := Int.eq_ofNat_of_zero_le hz
      have e1 : ((j : Int) + 1).toNat = j + 1 := by omega
      rw [e1] at hli hst
      have hjl : j < l.length := by have := hl.out; omega
      have hjn : j < n := by omega
      have hxb := Dig.at_below (by omega) bl j
      have hrl := bdv_lt hy (l.drop (j + 1))
      have hset := Lib.hid (bdv_at (y := y) hjl)
      have hrest := Lib.hid (bdv_rest (y := y) hjl)
      have hLl : Hid ((List.replicate (j + 1) 0 ++ (bdv y (l.drop (j + 1))).1).length = n) := by
        show _ = _
        rw [List.length_append, List.length_replicate, bdv_length, List.length_drop]
        have := hl.out
        omega
      have hL0 : Hid ((List.replicate (j + 1) 0 ++ (bdv y (l.drop (j + 1))).1).set j 0 = List.replicate (j + 1) 0 ++ (bdv y (l.drop (j + 1))).1) := by
        show _ = _
        rw [List.set_append_left _ _ (by simp)]
        congr 1
        apply List.ext_getElem
        · simp
        · intro i h1 h2
          simp
      obtain ⟨xi, hxi⟩ : ∃ xi : Int, xi = ((Dig.at_ l j : Nat) : Int) := ⟨_, rfl⟩
      have HX := Lib.hid hxi
      have hx0 : 0 ≤ xi := by omega
      have hx1 : xi < 256 := by omega
      have hji : Hid (((j : Int) - 1 + 1).toNat = j) := by show _ = _; omega
      generalize List.replicate (j + 1) 0 ++ (bdv y (l.drop (j + 1))).1 = L at *
      generalize (bdv y (l.drop (j + 1))).2 = r at *
      generalize hxv : Dig.at_ l j = x at *
      have HXV := Lib.hid hxv
      clear hxi hxv e1 hz hz1 hz2 bl
      go_wp2_with fail
      obtain ⟨wo, rfl⟩ : ∃ wo : World, wo = wr := ⟨_, rfl⟩
      go_loopw [8, 10] (fun lv dv wr => ∃ (k : Nat) (li di : Int), k ≤ 8 ∧ lv = .int .u64 li ∧ dv = .int .i64 di ∧ Hid (li = ((topBits r x k % y : Nat) : Int) ∧ di = ((128 / 2 ^ k : Nat) : Int)) ∧ Hid (DS w A n l (L.set j (topBits r x k / y * 2 ^ (8 - k))) wr)) (fun _ dv _ => (intOf dv).toNat)
      case atStart =>
        refine ⟨0, li, 128, by omega, rfl, rfl, ⟨?_, rfl⟩, ?_⟩
        · rw [topBits_zero r x hxb, Nat.mod_eq_of_lt hrl]; exact hli.out
        · show DS _ _ _ _ _ _
          rw [topBits_zero r x hxb, Nat.div_eq_of_lt hrl, Nat.zero_mul, hL0.out]
          exact hst.out
      case round =>
        obtain ⟨k, lj, di, hk, rfl, rfl, hld, hst2⟩ := hrel
        clear hst
        by_cases hlt : k < 8
        · obtain ⟨q, b, m1, m2, l', o, o', d', d0, d1, g0, g1, p1, p2, p3, p4, p5, p6, p7, p8, p9, p10, q0, q1, p11, ho, p12, p13, p14, hcase⟩ := digit_facts r x y k hrl hxb hyl hlt hld.out.1 hld.out.2 HX.out HY.out
          obtain ⟨ad, hA, hadb, hcell⟩ := hst2.out.row.at_ (i := j) hjn
          subst hA
          rw [HXV.out, ← HX.out] at hcell
          have hcell2 := hst2.out.made.cell (i := j) (by rw [List.length_set, hLl.out]; exact hjn)
          have hfro2 := hst2.out.made.frozen j
          have hat : Dig.at_ (L.set j (topBits r x k / y * 2 ^ (8 - k))) j = topBits r x k / y * 2 ^ (8 - k) := by
            rw [Dig.at_lt (by rw [List.length_set, hLl.out]; exact hjn)]; simp
          rw [hat, ← ho.out] at hcell2
          have hst3 := Lib.hid (hst2.out.stored j (topBits r x (k + 1) / y * 2 ^ (8 - (k + 1))))
          have hless : Hid (d'.toNat < di.toNat) := by
            have h1 := p11.out
            have h2 := hld.out.2
            have h3 : 128 / 2 ^ (k + 1) = 128 / 2 ^ k / 2 := by rw [Nat.pow_succ, Nat.div_div_eq_div_mul]
            rw [h3] at h1
            show _ < _
            omega
          have hj0 : (j : Int) < n := by omega
          clear hxb hrl hat
          rcases hcase with ⟨c1, c2⟩ | ⟨c1, c2, c3⟩ | ⟨c1, c2, c3⟩
          · go_wp2_with fail
            refine ⟨⟨k + 1, l', d', by omega, rfl, rfl, ⟨c2.out.1, p11.out⟩, ?_⟩, hless.out⟩
            have h := hst3.out
            rw [List.set_set, ← c2.out.2] at h
            exact h
          · go_wp2_with fail
            refine ⟨⟨k + 1, l', d', by omega, rfl, rfl, ⟨c3.out.1, p11.out⟩, ?_⟩, hless.out⟩
            have h := hst3.out
            rw [List.set_set, ← c3.out.2] at h
            exact h
          · have hsame : Hid (topBits r x (k + 1) / y * 2 ^ (8 - (k + 1)) = topBits r x k / y * 2 ^ (8 - k)) := by
              have h1 := c3.out.2
              have h2 := ho.out
              rw [h2] at h1
              exact (Int.ofNat_inj.1 h1).symm
            go_wp2_with fail
            refine ⟨⟨k + 1, m2, d', by omega, rfl, rfl, ⟨c3.out.1, p11.out⟩, ?_⟩, hless.out⟩
            have h := hst2.out
            rw [← hsame.out] at h
            exact h
        · obtain rfl : k = 8 := by omega
          have hd0 : di = 0 := hld.out.2
          subst hd0
          have hlj : Hid (lj = (((bdv y (l.drop j)).2 : Nat) : Int)) := by
            show _ = _
            rw [hld.out.1, topBits_all, hrest.out]
          have hst4 : Hid (DS w A n l (List.replicate j 0 ++ (bdv y (l.drop j)).1) wr) := by
            have h := hst2.out
            rw [topBits_all, show (2 : Nat) ^ (8 - 8) = 1 from rfl, Nat.mul_one, hset.out] at h
            exact h
          clear hst2 hxb hrl hld hyl
          go_wp2_with fail
          refine ⟨⟨(j : Int) - 1, lj, by omega, by omega, by go_num, rfl, ?_, ?_⟩, by simp [intOf]⟩
          · rw [hji.out]; exact hlj
          · rw [hji.out]; exact hst4
    · obtain rfl : z = -1 := by omega
      have e1 : ((-1 : Int) + 1).toNat = 0 := by omega
      rw [e1] at hli hst
      have hmade := hst.out.made
      have hbel := hst.out.below
      simp only [List.drop_zero, List.replicate_zero, List.nil_append] at hli hmade
      obtain ⟨d1, d2⟩ := bdv_div hy l
      have bq := bdv_below hy bl
      have hql : (bdv y l).1.length = n := by rw [bdv_length]; exact hl.out.symm
      have hrow := hmade.row
      rw [hql] at hrow
      have HD1 := Lib.hid d1
      have HLI : Hid (li = ((Dig.val 256 l % y : Nat) : Int)) := by show _ = _; rw [hli.out, d2]
      have hwv := Dig.words_val (bdv y l).1 ((n + 7) / 8) (by rw [hql]; omega)
      have hwb : Dig.Below LB (Dig.words (bdv y l).1 ((n + 7) / 8)) := by
        intro z hz
        obtain ⟨i, _, rfl⟩ := List.mem_map.1 hz
        rw [LB_eq]
        exact Dig.wordAt_lt bq i
      have hwv2 : Hid (Dig.val LB (Dig.words (bdv y l).1 ((n + 7) / 8)) = Dig.val 256 l / y) := by
        show _ = _
        rw [LB_eq, hwv, List.take_of_length_le (by rw [hql]; omega), d1]
      clear hli d1 d2 hst hmade hwv
      go_wp2_with fail
      refine (refLimbs_rows (some ⟨w.heap.size, 0, none⟩) n n (bdv y l).1 wr hrow bq (by omega)).mono ?_
      rintro e w1 ⟨A1, c1, rfl, hown1, hb1⟩
      have hs1 := hb1.size
      have hsw := hbel.size
      go_wp2_with fail
      refine (refOf A1 _ c1 _ w1 hown1.row hwb (by omega)).mono ?_
      rintro e w2 ⟨A2, n2, c2, rfl, hnum2, hn2, hb2⟩
      rw [hwv2.out] at hnum2
      go_wp2_with fail
      refine bodyPost_ret (v := .tuple #[.slice A2 n2 c2, .int .u64 li, .int .i64 0]) (by simp [results, Tryd.results12, go_sem]) rfl ?_
      exact ⟨A2, n2, c2, by rw [HLI.out], hnum2.mono (by omega), by omega, (hbel.trans (hb1.mono hsw)).trans (hb2.mono (by omega))⟩

theorem refDiv {A : Option Addr} {n c N b : Nat} {w : World} (y : Nat) (h : RNum w b A n c N) (hy : 0 < y) (hyl : y < LB) (hn : n ≤ 10000) :
    Calls Tryd.prog 12 #[.slice A n c, .int .u64 y] w fun e w' => ∃ A1 n1 c1, e = .returned (.tuple #[.slice A1 n1 c1, .int .u64 ((N % y : Nat) : Int), .int .i64 0]) ∧ RNum w' w.heap.size A1 n1 c1 (N / y) ∧ n1 ≤ n + 7 ∧ Below w.heap.size w w' := by
  obtain ⟨l, h1, h2, h3, h4, _⟩ := h
  rw [← h4]
  exact refDiv_rows A n c y l w h1 h3 hy hyl hn
theorem refDiv_zero (A : Option Addr) (n c : Nat) (w : World) :
    Calls Tryd.prog 12 #[.slice A n c, .int .u64 0] w fun e w' => e = .returned (.tuple #[.slice none 0 0, .int .u64 0, .int .i64 2]) ∧ Below w.heap.size w w' := by
  go_enter Tryd.func12, Tryd.ntmps12
  go_wp2_with fail
  refine bodyPost_ret (v := .tuple #[.slice none 0 0, .int .u64 0, .int .i64 2]) (by simp [results, Tryd.results12, go_sem]) rfl ?_
  exact ⟨rfl, Below.refl _ _⟩
end Go.Proofs.YthcglobehoaocaaDoor
