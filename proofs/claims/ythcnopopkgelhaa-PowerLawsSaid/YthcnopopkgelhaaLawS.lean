/- The law PowerLaws. -/
import Derived.Test.YthcnopopkgelhaaLawQ
namespace Go.Proofs.Ythcnopopkgelhaa
open Go.RowKit

theorem natCmp_is {A A' : Option Addr} {n c n' c' M N b b' : Nat} {z : Int} {w : World} (hM : Num w b A n c M) (hN : Num w b' A' n' c' N) (hz : Hid (cmpI M N = z)) :
    Calls Try.prog 17 #[.agg #[.slice A n c], .agg #[.slice A' n' c']] w fun e w' => e = .returned (.int .i64 z) ∧ Below w.heap.size w w' := by
  have := natCmp hM hN
  rw [hz.out] at this
  exact this
theorem psum_le (N i : Nat) : psum N i ≤ (N + 1) ^ i := by
  induction i with
  | zero => exact Nat.le_refl _
  | succ i ih =>
    rw [← psum_next, Nat.pow_succ, Nat.mul_add, Nat.mul_one]
    have h1 := Nat.mul_le_mul_right N ih
    have h2 : 1 ≤ (N + 1) ^ i := Nat.pow_pos (by omega)
    omega
theorem fit_pow {N i j : Nat} (h : N < LB ^ 3) (hi : i ≤ 40) (hj : j ≤ (N + 1) ^ i) : Fit 200 j := by
  unfold Fit
  rw [show capN 200 = 200 from rfl]
  refine Nat.lt_of_le_of_lt hj (Nat.lt_of_le_of_lt (Nat.pow_le_pow_left h i) ?_)
  rw [← Nat.pow_mul]
  exact Nat.pow_lt_pow_right (by unfold LB; omega) (by omega)
theorem pow_le_next (N i : Nat) : N ^ i ≤ (N + 1) ^ i := Nat.pow_le_pow_left (Nat.le_succ N) i
theorem fit_two {j : Nat} (h : j ≤ 192) : Fit 200 (2 ^ j) := by
  unfold Fit
  rw [LB_pow]
  exact Nat.pow_lt_pow_right (by omega) (by rw [show capN 200 = 200 from rfl]; omega)
theorem NatEnd.fits {c0 : Int} {V : Nat} {w w' : World} {e : Ending} (h : NatEnd c0 V w e w') (hf : Fit c0 V) (hc : capN c0 ≤ 200) : ∃ A1 n1 c1, e = .returned (.tuple #[.agg #[.slice A1 n1 c1], .bool true]) ∧ Num w' w.heap.size A1 n1 c1 V ∧ n1 ≤ 200 ∧ Below w.heap.size w w' := by
  obtain ⟨A1, n1, c1, h1, h2, h3, h4⟩ := h.yes hf
  exact ⟨A1, n1, c1, h1, h2, by omega, h4⟩

/-- A number in a box of its own. -/
structure NB (b g : Nat) (A : Option Addr) (n c N : Nat) (W : World) : Prop where
  box : Bx W g A n c
  num : Num W b A n c N
theorem NB.step {b g n c N : Nat} {A : Option Addr} {W W' : World} (h : NB b g A n c N W) (hb : Below W.heap.size W W') : NB b g A n c N W' := ⟨h.box.step hb, h.num.below hb⟩
theorem NB.new {b n c N : Nat} {A : Option Addr} {W : World} (h : Num W b A n c N) : NB b W.heap.size A n c N (W.alloc (.cells #[.slice A n c] 29)) := ⟨Bx.new W A n c, h.alloc _⟩

/-- The boxes of PowerLaws. -/
structure PQ (w : World) (b0 b1 b2 b3 b4 b5 gx gp gq gr gs gt : Nat) (X P Q R S T : Option Addr) (nx cx np cp nq cq nr cr ns cs nt ct N VP VQ VR VS VT : Nat) (W : World) : Prop where
  x : NB b0 gx X nx cx N W
  p : NB b1 gp P np cp VP W
  q : NB b2 gq Q nq cq VQ W
  r : NB b3 gr R nr cr VR W
  s : NB b4 gs S ns cs VS W
  t : NB b5 gt T nt ct VT W
  below : Below w.heap.size w W
section
variable {w W W' : World} {b0 b1 b2 b3 b4 b5 gx gp gq gr gs gt : Nat} {X P Q R S T : Option Addr} {nx cx np cp nq cq nr cr ns cs nt ct N VP VQ VR VS VT : Nat}
theorem PQ.step (h : PQ w b0 b1 b2 b3 b4 b5 gx gp gq gr gs gt X P Q R S T nx cx np cp nq cq nr cr ns cs nt ct N VP VQ VR VS VT W) (hb : Below W.heap.size W W') : PQ w b0 b1 b2 b3 b4 b5 gx gp gq gr gs gt X P Q R S T nx cx np cp nq cq nr cr ns cs nt ct N VP VQ VR VS VT W' :=
  ⟨h.x.step hb, h.p.step hb, h.q.step hb, h.r.step hb, h.s.step hb, h.t.step hb, bthen_ h.below hb⟩
theorem PQ.cells (h : PQ w b0 b1 b2 b3 b4 b5 gx gp gq gr gs gt X P Q R S T nx cx np cp nq cq nr cr ns cs nt ct N VP VQ VR VS VT W) :
    W.cell? ⟨gx, 0, none⟩ = some (.slice X nx cx) ∧ W.cell? ⟨gp, 0, none⟩ = some (.slice P np cp) ∧ W.cell? ⟨gq, 0, none⟩ = some (.slice Q nq cq) ∧ W.cell? ⟨gr, 0, none⟩ = some (.slice R nr cr) ∧ W.cell? ⟨gs, 0, none⟩ = some (.slice S ns cs) ∧ W.cell? ⟨gt, 0, none⟩ = some (.slice T nt ct) :=
  ⟨h.x.box.1, h.p.box.1, h.q.box.1, h.r.box.1, h.s.box.1, h.t.box.1⟩
end

set_option maxHeartbeats 4000000 in
set_option maxRecDepth 100000 in
theorem laws_any (A : Option Addr) (n c m1 m2 : Nat) (l : List Nat) (w : World) (hr : Row w w.heap.size .u64 A n l) (bl : Dig.Below LB l) (hc : n ≤ c) (hcm : c ≤ maxLen) (hn : n ≤ 3) :
    Calls Try.prog 4 #[.slice A n c, .int .u8 m1, .int .u8 m2] w fun e w' => e = .returned (.bool true) ∧ Below w.heap.size w w' := by
  obtain ⟨i, hi⟩ : ∃ i, i = m1 % 16 := ⟨_, rfl⟩
  obtain ⟨k, hk⟩ : ∃ k, k = m2 % 16 := ⟨_, rfl⟩
  have hi1 : i < 16 := by omega
  have hk1 : k < 16 := by omega
  have hid : (m1 : Int) % 16 = (i : Int) := by omega
  have hkd : (m2 : Int) % 16 = (k : Int) := by omega
  have hil : i < LB := by unfold LB; omega
  have hkl : k < LB := by unfold LB; omega
  have hikl : i + k < LB := by unfold LB; omega
  have hi1l : i + 1 < LB := by unfold LB; omega
  have w8i : IntKind.u8.wrap (i : Int) = (i : Int) := by rw [IntKind.wrap_u8]; omega
  have w8k : IntKind.u8.wrap (k : Int) = (k : Int) := by rw [IntKind.wrap_u8]; omega
  have wi : IntKind.u64.wrap (i : Int) = (i : Int) := by have := wrap_nat (a := i) (b := 0) (s := i) rfl hil; simpa using this
  have wk : IntKind.u64.wrap (k : Int) = (k : Int) := by have := wrap_nat (a := k) (b := 0) (s := k) rfl hkl; simpa using this
  have wik : IntKind.u64.wrap ((i : Int) + (k : Int)) = ((i + k : Nat) : Int) := wrap_nat rfl hikl
  have wi1 : IntKind.u64.wrap ((i : Int) + 1) = ((i + 1 : Nat) : Int) := by have := wrap_nat (a := i) (b := 1) (s := i + 1) rfl hi1l; simpa using this
  have hn3 : ¬ ((3 : Int) < n) := by omega
  clear hi hk
  go_enter Try.func4, Try.ntmps4
  go_wp2_with fail
  refine (natLimbs A n c l w hr bl hc hcm (by omega)).mono ?_
  rintro e w1 ⟨X, nx, cx, rfl, hx, hnx, hb1⟩
  have hNl : Hid (Dig.val LB l < LB ^ 3) := by
    have h1 := Dig.val_lt bl
    have h2 : LB ^ l.length ≤ LB ^ 3 := Nat.pow_le_pow_right LB_pos (by have := hr.len; omega)
    exact Nat.lt_of_lt_of_le h1 h2
  generalize Dig.val LB l = N at *
  have HX := Lib.hid (NB.new (b := w.heap.size) hx)
  have HB := Lib.hid (bthen_ hb1 (below_new_ w1 (.cells #[.slice X nx cx] 29)))
  clear hx hb1 hr bl
  have hxc := HX.out.box.1
  go_wp2_with fail
  refine (powPow 200 HX.out.num (by omega) hil (by decide)).mono ?_
  intro e vp he
  obtain ⟨P, np, cp, rfl, hp, hnp, hbp⟩ := he.fits (fit_pow hNl.out (show i ≤ 40 by omega) (pow_le_next N i)) (by decide)
  have halp := below_new_ vp (.cells #[.slice P np cp] 29)
  have HX := Lib.hid ((HX.out.step hbp).step halp)
  have HB := Lib.hid (bthen_ (bthen_ HB.out hbp) halp)
  have HP := Lib.hid (NB.new (b := _) hp)
  clear he hp hbp halp hxc
  have hxc := HX.out.box.1
  go_wp2_with fail
  refine (powPow 200 HX.out.num (by omega) hkl (by decide)).mono ?_
  intro e vq he
  obtain ⟨Q, nq, cq, rfl, hq, hnq, hbq⟩ := he.fits (fit_pow hNl.out (show k ≤ 40 by omega) (pow_le_next N k)) (by decide)
  have halq := below_new_ vq (.cells #[.slice Q nq cq] 29)
  have HX := Lib.hid ((HX.out.step hbq).step halq)
  have HP := Lib.hid ((HP.out.step hbq).step halq)
  have HB := Lib.hid (bthen_ (bthen_ HB.out hbq) halq)
  have HQ := Lib.hid (NB.new (b := _) hq)
  clear he hq hbq halq hxc
  have hxc := HX.out.box.1
  go_wp2_with fail
  refine (powPow 200 HX.out.num (by omega) hikl (by decide)).mono ?_
  intro e vr he
  obtain ⟨R, nr, cr, rfl, hr, hnr, hbr⟩ := he.fits (fit_pow hNl.out (show i + k ≤ 40 by omega) (pow_le_next N (i + k))) (by decide)
  have halr := below_new_ vr (.cells #[.slice R nr cr] 29)
  have HX := Lib.hid ((HX.out.step hbr).step halr)
  have HP := Lib.hid ((HP.out.step hbr).step halr)
  have HQ := Lib.hid ((HQ.out.step hbr).step halr)
  have HB := Lib.hid (bthen_ (bthen_ HB.out hbr) halr)
  have HR := Lib.hid (NB.new (b := _) hr)
  clear he hr hbr halr hxc
  have hxc := HX.out.box.1
  go_wp2_with fail
  refine (powSum 200 HX.out.num (by omega) hil (by decide)).mono ?_
  intro e vs he
  obtain ⟨S, ns, cs, rfl, hs, hns, hbs⟩ := he.fits (fit_pow hNl.out (show i ≤ 40 by omega) (psum_le N i)) (by decide)
  have hals := below_new_ vs (.cells #[.slice S ns cs] 29)
  have HX := Lib.hid ((HX.out.step hbs).step hals)
  have HP := Lib.hid ((HP.out.step hbs).step hals)
  have HQ := Lib.hid ((HQ.out.step hbs).step hals)
  have HR := Lib.hid ((HR.out.step hbs).step hals)
  have HB := Lib.hid (bthen_ (bthen_ HB.out hbs) hals)
  have HS := Lib.hid (NB.new (b := _) hs)
  clear he hs hbs hals hxc
  have hxc := HX.out.box.1
  go_wp2_with fail
  refine (powSum 200 HX.out.num (by omega) hi1l (by decide)).mono ?_
  intro e vt he
  obtain ⟨T, nt, ct, rfl, ht, hnt, hbt⟩ := he.fits (fit_pow hNl.out (show i + 1 ≤ 40 by omega) (psum_le N (i + 1))) (by decide)
  have halt := below_new_ vt (.cells #[.slice T nt ct] 29)
  have HX := Lib.hid ((HX.out.step hbt).step halt)
  have HP := Lib.hid ((HP.out.step hbt).step halt)
  have HQ := Lib.hid ((HQ.out.step hbt).step halt)
  have HR := Lib.hid ((HR.out.step hbt).step halt)
  have HS := Lib.hid ((HS.out.step hbt).step halt)
  have HB := Lib.hid (bthen_ (bthen_ HB.out hbt) halt)
  have HT := Lib.hid (NB.new (b := _) ht)
  clear he ht hbt halt hxc
  have hxc := HX.out.box.1
  go_wp2_with fail
  -- end of calls
  have H0 : PQ w _ _ _ _ _ _ w1.heap.size vp.heap.size vq.heap.size vr.heap.size vs.heap.size vt.heap.size X P Q R S T nx cx np cp nq cq nr cr ns cs nt ct N _ _ _ _ _ (vt.alloc (.cells #[.slice T nt ct] 29)) := ⟨HX.out, HP.out, HQ.out, HR.out, HS.out, HT.out, HB.out⟩
  generalize vt.alloc (.cells #[.slice T nt ct] 29) = W at *
  generalize w1.heap.size = gx at *
  generalize vp.heap.size = gp at *
  generalize vq.heap.size = gq at *
  generalize vr.heap.size = gr at *
  generalize vs.heap.size = gs at *
  generalize vt.heap.size = gt at *
  have H0 := H0.step (Below.refl W.heap.size W).drew
  have hcs := H0.cells
  have z1 : Hid (cmpI (N ^ i * N ^ k) (N ^ (i + k)) = 0) := cmpI_eq (Nat.pow_add N i k).symm
  have z2 : Hid (cmpI (psum N i * N + 1) (psum N (i + 1)) = 0) := cmpI_eq (psum_next N i)
  obtain ⟨z, hz3, hz4⟩ : ∃ z : Int, cmpI (psum N i) (N ^ i) = z ∧ ¬ (z < 0) := by
    refine ⟨_, rfl, ?_⟩
    have := pow_le_psum N i
    unfold cmpI
    rw [if_neg (by omega)]
    split <;> omega
  have z3 := Lib.hid hz3
  clear HX HP HQ HR HS HT HB hxc hz3
  go_region_held3 (fun w' => w'.cell? ⟨gx, 0, none⟩ = some (.slice X nx cx) ∧ w'.cell? ⟨gp, 0, none⟩ = some (.slice P np cp) ∧ w'.cell? ⟨gq, 0, none⟩ = some (.slice Q nq cq) ∧ w'.cell? ⟨gr, 0, none⟩ = some (.slice R nr cr) ∧ w'.cell? ⟨gs, 0, none⟩ = some (.slice S ns cs) ∧ w'.cell? ⟨gt, 0, none⟩ = some (.slice T nt ct))
    (first | exact H7.cells | exact H6.cells | exact H5.cells | exact H4.cells | exact H3.cells | exact H2.cells | exact H1.cells | exact hcs)
    (first
      | (go_at_call 18
         with_reducible refine (natMul H0.p.num H0.q.num ?h1 ?h2).mono ?_
         case h1 => omega
         case h2 => omega
         rintro e u1 ⟨Aa, na, ca, rfl, hMa, hla, hub⟩
         have H1 := H0.step hub)
      | (go_at_call 17
         with_reducible refine (natCmp_is hMa H1.r.num z1).mono ?_
         rintro e u2 ⟨rfl, hub2⟩
         have H2 := H1.step hub2)
      | (go_at_call 18
         with_reducible refine (natMul H2.s.num H2.x.num ?h3 ?h4).mono ?_
         case h3 => omega
         case h4 => omega
         rintro e u3 ⟨Ab, nb, cb, rfl, hMb, hlb, hub3⟩
         have H3 := H2.step hub3)
      | (go_at_call 20
         with_reducible refine (of1 _).mono ?_
         rintro e u4 ⟨Ac, nc, cc, rfl, hMc, hlc, hub4⟩
         have H4 := H3.step hub4
         have hMb4 := hMb.below hub4)
      | (go_at_call 19
         with_reducible refine (natAdd hMb4 hMc ?h5 ?h6).mono ?_
         case h5 => omega
         case h6 => omega
         rintro e u5 ⟨Ad, nd, cd, rfl, hMd, hld, hub5⟩
         have H5 := H4.step hub5)
      | (go_at_call 17
         with_reducible refine (natCmp_is hMd H5.t.num z2).mono ?_
         rintro e u6 ⟨rfl, hub6⟩
         have H6 := H5.step hub6)
      | (go_at_call 17
         with_reducible refine (natCmp_is H6.s.num H6.p.num z3).mono ?_
         rintro e u7 ⟨rfl, hub7⟩
         have H7 := H6.step hub7))
  have HX := Lib.hid H7.x
  have HB := Lib.hid H7.below
  clear H0 hcs H1 H2 H3 H4 H5 H6 H7 hMa hMb hMb4 hMc hMd hub hub2 hub3 hub4 hub5 hub6 hub7 z1 z2 z3
  have hb192 : nlog N ≤ 192 := nlog_least (by
    have := hNl.out
    rw [LB_pow] at this
    exact Nat.le_of_lt this)
  have ht1 : Hid (N ≤ 2 ^ nlog N) := le_pow_nlog N
  have ht2 : Hid (0 < nlog N → 2 ^ (nlog N - 1) < N) := pow_nlog_lt
  have hlg := powLog HX.out.num (by omega)
  generalize nlog N = bb at *
  have hbl : bb < LB := by unfold LB; omega
  have hxc := HX.out.box.1
  go_wp2_with fail
  refine hlg.mono ?_
  rintro e w8 ⟨rfl, hb8⟩
  have HX8 := Lib.hid (HX.out.step hb8)
  have HB8 := Lib.hid (bthen_ HB.out hb8)
  clear HX HB hxc hlg hb8 hz4
  go_wp2_with fail
  refine (powTwo 200 bb hbl (by decide) w8).mono ?_
  intro e w9 he
  obtain ⟨Y, ny, cy, rfl, hy, hny, hb9⟩ := he.fits (fit_two hb192) (by decide)
  have hal := below_new_ w9 (.cells #[.slice Y ny cy] 29)
  have HX9 := Lib.hid ((HX8.out.step hb9).step hal)
  have HB9 := Lib.hid (bthen_ (bthen_ HB8.out hb9) hal)
  have HY9 := Lib.hid (NB.new (b := _) hy)
  obtain ⟨z, hz3, hz4⟩ : ∃ z : Int, cmpI (2 ^ bb) N = z ∧ ¬ (z < 0) := by
    refine ⟨_, rfl, ?_⟩
    have := ht1.out
    unfold cmpI
    rw [if_neg (by omega)]
    split <;> omega
  have z3 := Lib.hid hz3
  clear he hy hb9 hal HX8 HB8 hz3
  have hxc := HX9.out.box.1
  have hyc := HY9.out.box.1
  have hcmp := natCmp_is HY9.out.num HX9.out.num z3
  go_wp2_with fail
  refine hcmp.mono ?_
  rintro e w10 ⟨rfl, hb10⟩
  have HX10 := Lib.hid (HX9.out.step hb10)
  have HB10 := Lib.hid (bthen_ HB9.out hb10)
  clear hcmp hb10 HX9 HB9 HY9 hxc hyc z3
  by_cases hb0 : 0 < bb
  · have hb0' : (0 : Int) < bb := by omega
    have hbl1 : bb - 1 < LB := by omega
    have wb : IntKind.u64.wrap ((bb : Int) - 1) = ((bb - 1 : Nat) : Int) := by
      rw [show (bb : Int) - 1 = ((bb - 1 : Nat) : Int) by omega]
      have := wrap_nat (a := bb - 1) (b := 0) (s := bb - 1) rfl hbl1; simpa using this
    have z4 : Hid (cmpI (2 ^ (bb - 1)) N = -1) := cmpI_lt (ht2.out hb0)
    generalize hbe : bb - 1 = b1 at *
    have hb193 : Hid (b1 ≤ 192) := by show b1 ≤ 192; omega
    clear hbe
    go_wp2_with fail
    refine (powTwo 200 b1 hbl1 (by decide) w10).mono ?_
    intro e w11 he
    obtain ⟨Z, nz, cz, rfl, hz, hnz, hb11⟩ := he.fits (fit_two hb193.out) (by decide)
    have hal := below_new_ w11 (.cells #[.slice Z nz cz] 29)
    have HX11 := Lib.hid ((HX10.out.step hb11).step hal)
    have HB11 := Lib.hid (bthen_ (bthen_ HB10.out hb11) hal)
    have HZ11 := Lib.hid (NB.new (b := _) hz)
    clear he hz hb11 hal HX10 HB10
    have hxc := HX11.out.box.1
    have hzc := HZ11.out.box.1
    have hcmp := natCmp_is HZ11.out.num HX11.out.num z4
    go_wp2_with fail
    refine hcmp.mono ?_
    rintro e w12 ⟨rfl, hb12⟩
    have HB12 := Lib.hid (bthen_ HB11.out hb12)
    clear hcmp hb12 HX11 HB11 HZ11 hxc hzc
    go_wp2_with fail
    refine (works_any _).mono ?_
    rintro e w13 ⟨rfl, hb13⟩
    go_wp2_with fail
    go_ret
    exact ⟨rfl, bthen_ HB12.out hb13⟩
  · have hb0' : ¬ ((0 : Int) < bb) := by omega
    go_wp2_with fail
    refine (works_any _).mono ?_
    rintro e w13 ⟨rfl, hb13⟩
    go_wp2_with fail
    go_ret
    exact ⟨rfl, bthen_ HB10.out hb13⟩

set_option maxHeartbeats 400000 in
theorem laws_long (A : Option Addr) (n c : Nat) (m1 m2 : Int) (w : World) (hn : 3 < n) (hm : n ≤ maxLen) :
    Calls Try.prog 4 #[.slice A n c, .int .u8 m1, .int .u8 m2] w fun e w' => e = .returned (.bool true) ∧ Below w.heap.size w w' := by
  unfold maxLen at hm
  go_enter Try.func4, Try.ntmps4
  go_wp2_with fail
  refine (works_any _).mono ?_
  rintro e w1 ⟨rfl, hb1⟩
  go_wp2_with fail
  go_ret
  exact ⟨rfl, hb1⟩
end Go.Proofs.Ythcnopopkgelhaa
