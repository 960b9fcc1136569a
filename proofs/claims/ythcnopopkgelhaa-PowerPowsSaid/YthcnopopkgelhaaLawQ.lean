/- The law PowerPows. -/
import Derived.Test.YthcnopopkgelhaaLawP
namespace Go.Proofs.Ythcnopopkgelhaa
open Go.RowKit

/-- A number under a cap, with its flag. -/
def NR (c0 : Int) (V b : Nat) (A : Option Addr) (n c : Nat) (f : Bool) (W : World) : Prop :=
  (f = true ∧ Fit c0 V ∧ Num W b A n c V ∧ n ≤ capN c0) ∨ (f = false ∧ ¬ Fit c0 V ∧ A = none ∧ n = 0 ∧ c = 0)
def RR (c0 : Int) (V b : Nat) (A : Option Addr) (n c : Nat) (f : Bool) (W : World) : Prop :=
  (f = true ∧ Fit c0 V ∧ RNum W b A n c V) ∨ (f = false ∧ ¬ Fit c0 V)
theorem NR.step {c0 : Int} {V b n c : Nat} {A : Option Addr} {f : Bool} {W W' : World} (h : NR c0 V b A n c f W) (hb : Below W.heap.size W W') : NR c0 V b A n c f W' := by
  rcases h with ⟨h1, h2, h3, h4⟩ | h
  · exact .inl ⟨h1, h2, h3.below hb, h4⟩
  · exact .inr h
theorem RR.step {c0 : Int} {V b n c : Nat} {A : Option Addr} {f : Bool} {W W' : World} (h : RR c0 V b A n c f W) (hb : Below W.heap.size W W') : RR c0 V b A n c f W' := by
  rcases h with ⟨h1, h2, h3⟩ | h
  · exact .inl ⟨h1, h2, h3.below hb⟩
  · exact .inr h
theorem NatEnd.nr {c0 : Int} {V : Nat} {w w' : World} {e : Ending} (h : NatEnd c0 V w e w') : ∃ (A : Option Addr) (n c : Nat) (f : Bool), e = .returned (.tuple #[.agg #[.slice A n c], .bool f]) ∧ NR c0 V w.heap.size A n c f w' ∧ Below w.heap.size w w' := by
  rcases h with ⟨h1, A1, n1, c1, h2, h3, h4⟩ | ⟨h1, h2, h3⟩
  · exact ⟨A1, n1, c1, true, h2, .inl ⟨rfl, h1, h3, h3.len_fit h1⟩, h4⟩
  · exact ⟨none, 0, 0, false, h2, .inr ⟨rfl, h1, rfl, rfl, rfl⟩, h3⟩
theorem RefEnd.rr {c0 : Int} {V : Nat} {w w' : World} {e : Ending} (h : RefEnd c0 V w e w') : ∃ (A : Option Addr) (n c : Nat) (f : Bool), e = .returned (.tuple #[.slice A n c, .bool f]) ∧ RR c0 V w.heap.size A n c f w' ∧ Below w.heap.size w w' := by
  rcases h with ⟨h1, A1, n1, c1, h2, h3, h4⟩ | ⟨h1, A1, n1, c1, h2, h3⟩
  · exact ⟨A1, n1, c1, true, h2, .inl ⟨rfl, h1, h3⟩, h4⟩
  · exact ⟨A1, n1, c1, false, h2, .inr ⟨rfl, h1⟩, h3⟩

/-- Two numbers that the cap does not tell apart. -/
def Like (c0 : Int) (V V' : Nat) : Prop := V = V' ∨ (¬ Fit c0 V ∧ ¬ Fit c0 V')
theorem lawIs {c0 : Int} {A B : Option Addr} {n c m d V V' b b' : Nat} {f g : Bool} {w : World} (h : NR c0 V b A n c f w) (h' : RR c0 V' b' B m d g w) (hv : Like c0 V V') (hc : capN c0 ≤ 1000) :
    Calls Try.prog 11 #[.agg #[.slice A n c], .bool f, .slice B m d, .bool g] w fun e w' => e = .returned (.bool true) ∧ Below w.heap.size w w' := by
  rcases h with ⟨rfl, h2, h3, h4⟩ | ⟨rfl, h2, rfl, rfl, rfl⟩
  · rcases h' with ⟨rfl, g2, g3⟩ | ⟨rfl, g2⟩
    · rcases hv with rfl | ⟨hv, _⟩
      · exact lawIs_yes h3 g3 (by omega)
      · exact absurd h2 hv
    · rcases hv with rfl | ⟨hv, _⟩
      · exact absurd h2 g2
      · exact absurd h2 hv
  · rcases h' with ⟨rfl, g2, g3⟩ | ⟨rfl, g2⟩
    · rcases hv with rfl | ⟨_, hv⟩
      · exact absurd g2 h2
      · exact absurd g2 hv
    · exact lawIs_no _ w

theorem like_min {c0 : Int} {N n k : Nat} (hc : capN c0 ≤ 12) (hk : k = n ∨ (768 ≤ k ∧ 768 ≤ n)) : Like c0 (N ^ n) (N ^ k) := by
  rcases hk with rfl | ⟨h1, h2⟩
  · exact .inl rfl
  · rcases Nat.lt_or_ge N 2 with h3 | h3
    · left
      rcases Nat.lt_or_ge N 1 with h4 | h4
      · obtain rfl : N = 0 := by omega
        rw [Nat.zero_pow (by omega), Nat.zero_pow (by omega)]
      · obtain rfl : N = 1 := by omega
        rw [Nat.one_pow, Nat.one_pow]
    · exact .inr ⟨unfit_pow hc h3 (by omega), unfit_pow hc h3 (by omega)⟩

/-- What PowerPows keeps: the number, in a box, and the reference's. -/
structure PP (w : World) (gp : Nat) (A : Option Addr) (n c : Nat) (B : Option Addr) (m d N : Nat) (W : World) : Prop where
  box : Bx W gp A n c
  num : Num W w.heap.size A n c N
  ref : RNum W w.heap.size B m d N
  below : Below w.heap.size w W
theorem PP.step {w W W' : World} {gp n c m d N : Nat} {A B : Option Addr} (h : PP w gp A n c B m d N W) (hb : Below W.heap.size W W') : PP w gp A n c B m d N W' :=
  ⟨h.box.step hb, h.num.below hb, h.ref.below hb, bthen_ h.below hb⟩

theorem wrap_min (n : Nat) : min (n : Int) 1000 = ((min n 1000 : Nat) : Int) := by omega

set_option maxHeartbeats 4000000 in
set_option maxRecDepth 100000 in
theorem pows_any (c0 : Int) (A : Option Addr) (n c m : Nat) (l : List Nat) (w : World) (hr : Row w w.heap.size .u64 A n l) (bl : Dig.Below LB l) (hc : n ≤ c) (hcm : c ≤ maxLen) (hn : n ≤ 6) (hm : m < LB) :
    Calls Try.prog 3 #[.int .i64 c0, .slice A n c, .int .u64 m] w fun e w' => e = .returned (.bool true) ∧ Below w.heap.size w w' := by
  have hlc := lim_le c0
  have hlm := fun w => lawLimit c0 w
  generalize lim c0 = cc at *
  obtain ⟨k, hk⟩ : ∃ k, k = min m 1000 := ⟨_, rfl⟩
  have hmin : min (m : Int) 1000 = ((k : Nat) : Int) := by rw [hk]; exact wrap_min m
  have hkl : k < LB := by omega
  have hk1 : k ≤ 1000 := by omega
  have hlike := fun N => like_min (N := N) (n := m) (k := k) hlc (by omega)
  have HL := Lib.hid hlike
  have hn6 : ¬ ((6 : Int) < n) := by omega
  clear hk hlike
  go_enter Try.func3, Try.ntmps3
  go_wp2_with fail
  refine (hlm _).mono ?_
  rintro e w0 ⟨rfl, rfl⟩
  go_wp2_with fail
  refine (refOf A n c l w hr bl (by omega)).mono ?_
  rintro e w1 ⟨B, mb, d, rfl, hx1, hnx, hb1⟩
  go_wp2_with fail
  refine (natLimbs A n c l w1 ((hr.below hb1).more hb1.size) bl hc hcm (by omega)).mono ?_
  rintro e w2 ⟨P, np, cp, rfl, hp2, hnp, hb2⟩
  have hs1 := hb1.size
  have hpp : PP w w2.heap.size P np cp B mb d (Dig.val LB l) (w2.alloc (.cells #[.slice P np cp] 29)) :=
    ⟨Bx.new w2 P np cp, (hp2.mono hs1).alloc _, (hx1.below hb2).alloc _, bthen_ (bthen_ hb1 hb2) (below_new_ w2 _)⟩
  clear hx1 hb1 hp2 hb2 hr hs1
  generalize Dig.val LB l = N at *
  have HPP := Lib.hid hpp
  clear hpp
  go_wp2_with fail
  generalize w2.alloc (.cells #[.slice P np cp] 29) = W2 at *
  generalize w2.heap.size = gp at *
  refine (powPow cc HPP.out.num (by omega) hm (by omega)).mono ?_
  intro e w3 he
  obtain ⟨R, nr, cr, f, rfl, hnr, hb3⟩ := he.nr
  have HPP3 := Lib.hid (HPP.out.step hb3)
  have HR := Lib.hid (hnr.step (below_new_ w3 (.cells #[.slice R nr cr] 29)))
  clear he hnr hb3
  go_wp2_with fail
  have HPP4 := Lib.hid (HPP3.out.step (below_new_ w3 (.cells #[.slice R nr cr] 29)))
  have hbr := Bx.new w3 R nr cr
  generalize w3.alloc (.cells #[.slice R nr cr] 29) = W3 at *
  generalize w3.heap.size = gr at *
  clear HPP HPP3
  refine (refPow cc HPP4.out.ref (by omega) (by omega) hkl).mono ?_
  intro e w4 he
  obtain ⟨T, nt, ct, g, rfl, hrr, hb4⟩ := he.rr
  have HPP5 := Lib.hid (HPP4.out.step hb4)
  have hbr4 := hbr.step hb4
  have his := lawIs (HR.out.step hb4) hrr (HL.out N) (by omega)
  clear he hrr hb4 HR hbr HPP4
  have hbc := hbr4.1
  go_wp2_with fail
  refine his.mono ?_
  rintro e w5 ⟨rfl, hb5⟩
  have HPP6 := Lib.hid (HPP5.out.step hb5)
  clear his hb5 HPP5 hbc hbr4
  have hbc := HPP6.out.box.1
  go_wp2_with fail
  refine (powSum cc HPP6.out.num (by omega) hm (by omega)).mono ?_
  intro e w6 he
  obtain ⟨S, ns, cs, f2, rfl, hns, hb6⟩ := he.nr
  have HPP7 := Lib.hid (HPP6.out.step hb6)
  have HS := Lib.hid (hns.step (below_new_ w6 (.cells #[.slice S ns cs] 29)))
  clear he hns hb6 HPP6 hbc
  go_wp2_with fail
  have HPP8 := Lib.hid (HPP7.out.step (below_new_ w6 (.cells #[.slice S ns cs] 29)))
  have HBS := Lib.hid (Bx.new w6 S ns cs)
  generalize w6.alloc (.cells #[.slice S ns cs] 29) = W6 at *
  generalize w6.heap.size = gs at *
  clear HPP7
  refine (refSum cc HPP8.out.ref (by omega) (by omega) hm).mono ?_
  intro e w7 he
  obtain ⟨U, nu, cu, g2, rfl, hru, hb7⟩ := he.rr
  have HPP9 := Lib.hid (HPP8.out.step hb7)
  have HS7 := Lib.hid (HS.out.step hb7)
  have HBS7 := Lib.hid (HBS.out.step hb7)
  clear he hb7 HPP8 HS HBS
  have HU := Lib.hid hru
  clear hru
  go_wp2_with fail
  refine (powTwo cc m hm (by omega) w7).mono ?_
  intro e w8 he
  obtain ⟨Y, ny, cy, f3, rfl, hny, hb8⟩ := he.nr
  have HPP10 := Lib.hid ((HPP9.out.step hb8).step (below_new_ w8 (.cells #[.slice Y ny cy] 29)))
  have HS8 := Lib.hid ((HS7.out.step hb8).step (below_new_ w8 (.cells #[.slice Y ny cy] 29)))
  have HBS8 := Lib.hid ((HBS7.out.step hb8).step (below_new_ w8 (.cells #[.slice Y ny cy] 29)))
  have HU8 := Lib.hid ((HU.out.step hb8).step (below_new_ w8 (.cells #[.slice Y ny cy] 29)))
  have HY8 := Lib.hid (hny.step (below_new_ w8 (.cells #[.slice Y ny cy] 29)))
  have HBY := Lib.hid (Bx.new w8 Y ny cy)
  clear he hny hb8 HPP9 HS7 HBS7 HU
  have hq2 := rnum_of_cell_ ((w8.alloc (.cells #[.slice Y ny cy] 29)).alloc (.cells #[.int .u8 2] 5)) (w8.alloc (.cells #[.slice Y ny cy] 29)).heap.size 2 (by omega) (by omega) (size_new _ _) (cell_new _ _ _)
  have hbn := below_new_ (w8.alloc (.cells #[.slice Y ny cy] 29)) (.cells #[.int .u8 2] 5)
  have HPP11 := Lib.hid (HPP10.out.step hbn)
  have HS11 := Lib.hid (HS8.out.step hbn)
  have HBS11 := Lib.hid (HBS8.out.step hbn)
  have HU11 := Lib.hid (HU8.out.step hbn)
  have HY11 := Lib.hid (HY8.out.step hbn)
  have HBY11 := Lib.hid (HBY.out.step hbn)
  clear hbn HPP10 HS8 HBS8 HU8 HY8 HBY
  have hs8 : (w8.alloc (.cells #[.slice Y ny cy] 29)).heap.size = w8.heap.size + 1 := by simp
  rw [hs8] at hq2
  go_wp2_with fail
  generalize (w8.alloc (.cells #[.slice Y ny cy] 29)).alloc (.cells #[.int .u8 2] 5) = W8 at *
  clear hs8
  refine (refPow cc hq2 (by omega) (by omega) hkl).mono ?_
  intro e w9 he
  obtain ⟨Z, nz, cz, g3, rfl, hrz, hb9⟩ := he.rr
  have HPP12 := Lib.hid (HPP11.out.step hb9)
  have hbs := HBS11.out.step hb9
  have HBY12 := Lib.hid (HBY11.out.step hb9)
  have HY12 := Lib.hid (HY11.out.step hb9)
  have HZ := Lib.hid hrz
  have his := lawIs (HS11.out.step hb9) (HU11.out.step hb9) (.inl rfl) (by omega)
  clear he hrz hb9 HPP11 HBS11 HBY11 HY11 HS11 HU11 hq2
  have hbc := hbs.1
  go_wp2_with fail
  refine his.mono ?_
  rintro e w10 ⟨rfl, hb10⟩
  have HPP13 := Lib.hid (HPP12.out.step hb10)
  have his2 := lawIs (HY12.out.step hb10) (HZ.out.step hb10) (HL.out 2) (by omega)
  have hbc2 := (HBY12.out.step hb10).1
  clear his hbs hbc hb10 HPP12 HBY12 HY12 HZ
  go_wp2_with fail
  refine his2.mono ?_
  rintro e w11 ⟨rfl, hb11⟩
  have HPP14 := Lib.hid (HPP13.out.step hb11)
  clear his2 hbc2 hb11 HPP13
  have hbc := HPP14.out.box.1
  have hal := HPP14.out.num.all (by omega)
  go_wp2_with fail
  refine hal.mono ?_
  rintro e w12 ⟨A12, c12, l12, rfl, hrow, hbl, hval, hb12⟩
  have hro := refOf A12 np c12 l12 w12 hrow hbl (by omega)
  rw [hval] at hro
  have HPP15 := Lib.hid (HPP14.out.step hb12)
  clear hal hrow hbl hval hb12 hbc HPP14
  go_wp2_with fail
  refine hro.mono ?_
  rintro e w13 ⟨A13, n13, c13, rfl, hnum13, hn13, hb13⟩
  have HPP16 := Lib.hid (HPP15.out.step hb13)
  clear hb13 HPP15 hro
  go_wp2_with fail
  refine (refSame hnum13 HPP16.out.ref rfl).mono ?_
  rintro e w14 ⟨rfl, hb14⟩
  have hb15 := bthen_ HPP16.out.below hb14
  clear hb14 HPP16 hnum13
  go_wp2_with fail
  refine (works_any _).mono ?_
  rintro e w15 ⟨rfl, hb16⟩
  go_wp2_with fail
  go_ret
  exact ⟨rfl, bthen_ hb15 hb16⟩

set_option maxHeartbeats 400000 in
theorem pows_long (c0 : Int) (A : Option Addr) (n c m : Nat) (w : World) (hn : 6 < n) (hm : n ≤ maxLen) :
    Calls Try.prog 3 #[.int .i64 c0, .slice A n c, .int .u64 m] w fun e w' => e = .returned (.bool true) ∧ Below w.heap.size w w' := by
  unfold maxLen at hm
  go_enter Try.func3, Try.ntmps3
  go_wp2_with fail
  refine (works_any _).mono ?_
  rintro e w1 ⟨rfl, hb1⟩
  go_wp2_with fail
  go_ret
  exact ⟨rfl, hb1⟩
end Go.Proofs.Ythcnopopkgelhaa
