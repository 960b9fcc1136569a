/- NatLaws: its walk. -/
import Derived.Test.YtamknndngjoncaaLawW
namespace Go.Proofs.Ytamknndngjoncaa
open Go.RowKit

theorem bstep {w a b : World} (h : Below w.heap.size w a) (hb : Below a.heap.size a b) : Below w.heap.size w b := h.trans (hb.mono h.size)

/-- A number in a box. -/
structure Box (w : World) (g : Nat) (A : Option Addr) (n c b N : Nat) : Prop where
  cell : w.cell? ⟨g, 0, none⟩ = some (.slice A n c)
  froz : w.frozen? ⟨g, 0, none⟩ = false
  num : Num w b A n c N
theorem Box.below {w w' : World} {g n c b N : Nat} {A : Option Addr} (h : Box w g A n c b N) (hb : Below w.heap.size w w') : Box w' g A n c b N :=
  ⟨(bcell1 hb h.cell h.froz).1, (bcell1 hb h.cell h.froz).2, h.num.below hb⟩
theorem Box.lt {w : World} {g n c b N : Nat} {A : Option Addr} (h : Box w g A n c b N) : g < w.heap.size := World.block_lt_of_cell? w ⟨g, 0, none⟩ h.cell
theorem Box.new {w : World} {n c b N : Nat} {A : Option Addr} (h : Num w b A n c N) : Box (w.alloc (.cells #[.slice A n c] 28)) w.heap.size A n c b N :=
  ⟨by simp [go_sem], by simp [go_sem], h.alloc _⟩
theorem Box.drew {w : World} {g n c b N : Nat} {A : Option Addr} (h : Box w g A n c b N) : Box w.drew g A n c b N := h.below (Below.refl _ _).drew

theorem natCmp_eq {A A' : Option Addr} {n c n' c' M N b b' : Nat} {w : World} (hM : Num w b A n c M) (hN : Num w b' A' n' c' N) (h : M = N) :
    Calls Try.prog 15 #[.agg #[.slice A n c], .agg #[.slice A' n' c']] w fun e w' => e = .returned (.int .i64 0) ∧ Below w.heap.size w w' := by
  have := natCmp hM hN
  rw [cmpI_eq h] at this
  exact this
theorem Num.ne0 {w : World} {b n c N : Nat} {A : Option Addr} (h : Num w b A n c N) (hN : 0 < N) : (((n : Nat) : Int) == 0) = false := by
  obtain ⟨l, h1, _, _, h4, _⟩ := h
  have hl := h1.len
  have : n ≠ 0 := by
    rintro rfl
    have : l = [] := List.eq_nil_of_length_eq_zero hl.symm
    rw [this] at h4
    simp [Dig.val] at h4
    omega
  simpa using this
theorem natLen0 {w : World} {b n c N : Nat} {A : Option Addr} (h : Num w b A n c N) (hN : N = 0) :
    Calls Try.prog 28 #[.agg #[.slice A n c]] w fun e w' => e = .returned (.int .i64 0) ∧ Below w.heap.size w w' := by
  obtain ⟨hr, hn⟩ := h.row_of [] rfl (Dig.Below.nil _) (by rw [hN]; rfl)
  have hl := natLen A n c w
  rw [hn] at hl ⊢
  exact hl
theorem natSub_less' {A A' : Option Addr} {n c n' c' M N b b' : Nat} {w : World} (hM : Num w b A n c M) (hN : Num w b' A' n' c' N) (hlt : M < N) :
    Calls Try.prog 19 #[.agg #[.slice A n c], .agg #[.slice A' n' c']] w fun e w' => ∃ A1 n1 c1, e = .returned (.tuple #[.agg #[.slice A1 n1 c1], .int .i64 11]) ∧ Num w' w.heap.size A1 n1 c1 0 ∧ Below w.heap.size w w' :=
  (natSub_less hM hN hlt).mono fun _ _ ⟨he, hb⟩ => ⟨none, 0, 0, he, Num.zero _ _, hb⟩
theorem natCmp_is {A A' : Option Addr} {n c n' c' M N b b' : Nat} {w : World} {z : Int} (hM : Num w b A n c M) (hN : Num w b' A' n' c' N) (h : cmpI M N = z) :
    Calls Try.prog 15 #[.agg #[.slice A n c], .agg #[.slice A' n' c']] w fun e w' => e = .returned (.int .i64 z) ∧ Below w.heap.size w w' := by
  have := natCmp hM hN
  rw [h] at this
  exact this

set_option maxRecDepth 100000 in
set_option maxHeartbeats 4000000 in
theorem natLaws_small (A B C : Option Addr) (n m k c c' c'' : Nat) (l1 l2 l3 : List Nat) (w : World) (ha : Row w w.heap.size .u64 A n l1) (hb : Row w w.heap.size .u64 B m l2) (hc : Row w w.heap.size .u64 C k l3)
    (ba : Dig.Below LB l1) (bb : Dig.Below LB l2) (bc : Dig.Below LB l3) (hn : n ≤ 30) (hm : m ≤ 30) (hk : k ≤ 30) (hnc : n ≤ c) (hmc : m ≤ c') (hkc : k ≤ c'') (hcm : c ≤ maxLen) (hcm' : c' ≤ maxLen) (hcm'' : c'' ≤ maxLen) :
    Calls Try.prog 5 #[.slice A n c, .slice B m c', .slice C k c''] w fun e w' => e = .returned (.bool true) ∧ Below w.heap.size w w' := by
  have e1 := Lib.hid (show Dig.val LB l1 + Dig.val LB l2 = Dig.val LB l2 + Dig.val LB l1 from Nat.add_comm _ _)
  have e2 := Lib.hid (show Dig.val LB l1 + Dig.val LB l2 + Dig.val LB l3 = Dig.val LB l1 + (Dig.val LB l2 + Dig.val LB l3) from Nat.add_assoc _ _ _)
  have e3 := Lib.hid (show Dig.val LB l1 * Dig.val LB l2 = Dig.val LB l2 * Dig.val LB l1 from Nat.mul_comm _ _)
  have e4 := Lib.hid (show Dig.val LB l1 * Dig.val LB l2 * Dig.val LB l3 = Dig.val LB l1 * (Dig.val LB l2 * Dig.val LB l3) from Nat.mul_assoc _ _ _)
  have e5 := Lib.hid (show (Dig.val LB l1 + Dig.val LB l2) * Dig.val LB l3 = Dig.val LB l1 * Dig.val LB l3 + Dig.val LB l2 * Dig.val LB l3 from Nat.add_mul _ _ _)
  generalize hX : Dig.val LB l1 = X at *
  generalize hY : Dig.val LB l2 = Y at *
  generalize hZ : Dig.val LB l3 = Z at *
  have hX := Lib.hid hX
  have hY := Lib.hid hY
  have hZ := Lib.hid hZ
  go_enter Try.func5, Try.ntmps5
  go_wp2_with fail
  refine (natLimbs A n c l1 _ ha ba hnc hcm (by omega)).mono ?_
  rintro e w1 ⟨A1, n1, c1, rfl, hx1, hn1, hb1⟩
  go_wp2_with fail
  refine (natLimbs B m c' l2 _ ((hb.below hb1).more hb1.size) bb hmc hcm' (by omega)).mono ?_
  rintro e w2 ⟨A2, n2, c2, rfl, hy2, hn2, hb2⟩
  have hW2 := bstep hb1 hb2
  go_wp2_with fail
  refine (natLimbs C k c'' l3 _ ((hc.below hW2).more hW2.size) bc hkc hcm'' (by omega)).mono ?_
  rintro e w3 ⟨A3, n3, c3, rfl, hz3, hn3, hb3⟩
  have hW3 := bstep hW2 hb3
  have hx3 := (hx1.below hb2).below hb3
  have hy3 := hy2.below hb3
  rw [hX.out] at hx3
  rw [hY.out] at hy3
  rw [hZ.out] at hz3
  clear ha hb hc hb1 hb2 hb3 hW2 hx1 hy2
  have hn1' : n1 ≤ 30 := by omega
  have hn2' : n2 ≤ 30 := by omega
  have hn3' : n3 ≤ 30 := by omega
  clear hn1 hn2 hn3 hn hm hk
  go_wp2_with fail
  have hbV : Below w3.heap.size w3 (((w3.alloc (.cells #[.slice A1 n1 c1] 28)).alloc (.cells #[.slice A2 n2 c2] 28)).alloc (.cells #[.slice A3 n3 c3] 28)) := by go_grown
  have hxV : Box (((w3.alloc (.cells #[.slice A1 n1 c1] 28)).alloc (.cells #[.slice A2 n2 c2] 28)).alloc (.cells #[.slice A3 n3 c3] 28)) w3.heap.size A1 n1 c1 _ X := ⟨by simp [go_sem], by simp [go_sem], hx3.below hbV⟩
  have hyV : Box (((w3.alloc (.cells #[.slice A1 n1 c1] 28)).alloc (.cells #[.slice A2 n2 c2] 28)).alloc (.cells #[.slice A3 n3 c3] 28)) (w3.heap.size + 1) A2 n2 c2 _ Y := ⟨by simp [go_sem], by simp [go_sem], hy3.below hbV⟩
  have hzV : Box (((w3.alloc (.cells #[.slice A1 n1 c1] 28)).alloc (.cells #[.slice A2 n2 c2] 28)).alloc (.cells #[.slice A3 n3 c3] 28)) (w3.heap.size + 1 + 1) A3 n3 c3 _ Z := ⟨by simp [go_sem], by simp [go_sem], hz3.below hbV⟩
  have hWV := bstep hW3 hbV
  clear hx3 hy3 hz3 hbV hW3
  generalize (((w3.alloc (.cells #[.slice A1 n1 c1] 28)).alloc (.cells #[.slice A2 n2 c2] 28)).alloc (.cells #[.slice A3 n3 c3] 28)) = V at *
  generalize w3.heap.size + 1 + 1 = g3 at *
  generalize w3.heap.size + 1 = g2 at *
  generalize w3.heap.size = g1 at *
  refine (natAdd hxV.num hyV.num (by omega) (by omega)).mono ?_
  rintro e w4 ⟨A4, n4, c4, rfl, ht4, hn4, hb4⟩
  go_wp2_with fail
  have hb5 : Below w4.heap.size w4 (w4.alloc (.cells #[.slice A4 n4 c4] 28)) := (Below.refl _ _).alloc (Nat.le_refl _) _
  have hta := (Box.new ht4).drew
  have hxa := ((hxV.below hb4).below hb5).drew
  have hya := ((hyV.below hb4).below hb5).drew
  have hza := ((hzV.below hb4).below hb5).drew
  have hWa := (bstep (bstep hWV hb4) hb5).drew
  clear ht4 hb4 hb5 hxV hyV hzV hWV
  generalize w4.alloc (.cells #[.slice A4 n4 c4] 28) = U at *
  generalize w4.heap.size = g4 at *
  go_region_held3 (fun w' => w'.cell? ⟨g1, 0, none⟩ = some (.slice A1 n1 c1) ∧ w'.cell? ⟨g2, 0, none⟩ = some (.slice A2 n2 c2) ∧ w'.cell? ⟨g3, 0, none⟩ = some (.slice A3 n3 c3) ∧ w'.cell? ⟨g4, 0, none⟩ = some (.slice A4 n4 c4)) (first | exact ⟨hxa19.cell, hya19.cell, hza19.cell, hta19.cell⟩ | exact ⟨hxa18.cell, hya18.cell, hza18.cell, hta18.cell⟩ | exact ⟨hxa17.cell, hya17.cell, hza17.cell, hta17.cell⟩ | exact ⟨hxa16.cell, hya16.cell, hza16.cell, hta16.cell⟩ | exact ⟨hxa15.cell, hya15.cell, hza15.cell, hta15.cell⟩ | exact ⟨hxa14.cell, hya14.cell, hza14.cell, hta14.cell⟩ | exact ⟨hxa13.cell, hya13.cell, hza13.cell, hta13.cell⟩ | exact ⟨hxa12.cell, hya12.cell, hza12.cell, hta12.cell⟩ | exact ⟨hxa11.cell, hya11.cell, hza11.cell, hta11.cell⟩ | exact ⟨hxa10.cell, hya10.cell, hza10.cell, hta10.cell⟩ | exact ⟨hxa9.cell, hya9.cell, hza9.cell, hta9.cell⟩ | exact ⟨hxa8.cell, hya8.cell, hza8.cell, hta8.cell⟩ | exact ⟨hxa7.cell, hya7.cell, hza7.cell, hta7.cell⟩ | exact ⟨hxa6.cell, hya6.cell, hza6.cell, hta6.cell⟩ | exact ⟨hxa5.cell, hya5.cell, hza5.cell, hta5.cell⟩ | exact ⟨hxa4.cell, hya4.cell, hza4.cell, hta4.cell⟩ | exact ⟨hxa3.cell, hya3.cell, hza3.cell, hta3.cell⟩ | exact ⟨hxa2.cell, hya2.cell, hza2.cell, hta2.cell⟩ | exact ⟨hxa1.cell, hya1.cell, hza1.cell, hta1.cell⟩ | exact ⟨hxa.cell, hya.cell, hza.cell, hta.cell⟩)
    (first
      | (go_at_call 24
         with_reducible refine (natAdd hya.num hxa.num ?ha ?hb).mono ?_
         case ha => omega
         case hb => omega
         rintro e wa1 ⟨Aa1, na1, ca1, rfl, rq0a1, hna1, hba1⟩
         have hxa1 := hxa.below hba1
         have hya1 := hya.below hba1
         have hza1 := hza.below hba1
         have hta1 := hta.below hba1
         have hWa1 := bstep hWa hba1)
      | (go_at_call 15
         with_reducible refine (natCmp_eq hta1.num rq0a1 e1.out).mono ?_
         rintro e wa2 ⟨rfl, hba2⟩
         have hxa2 := hxa1.below hba2
         have hya2 := hya1.below hba2
         have hza2 := hza1.below hba2
         have hta2 := hta1.below hba2
         have hWa2 := bstep hWa1 hba2)
      | (go_at_call 24
         with_reducible refine (natAdd hta2.num hza2.num ?ha ?hb).mono ?_
         case ha => omega
         case hb => omega
         rintro e wa3 ⟨Aa3, na3, ca3, rfl, rq2a3, hna3, hba3⟩
         have hxa3 := hxa2.below hba3
         have hya3 := hya2.below hba3
         have hza3 := hza2.below hba3
         have hta3 := hta2.below hba3
         have hWa3 := bstep hWa2 hba3)
      | (go_at_call 24
         with_reducible refine (natAdd hya3.num hza3.num ?ha ?hb).mono ?_
         case ha => omega
         case hb => omega
         rintro e wa4 ⟨Aa4, na4, ca4, rfl, rq3a4, hna4, hba4⟩
         have hxa4 := hxa3.below hba4
         have hya4 := hya3.below hba4
         have hza4 := hza3.below hba4
         have hta4 := hta3.below hba4
         have rq2a4 := rq2a3.below hba4
         have hWa4 := bstep hWa3 hba4)
      | (go_at_call 24
         with_reducible refine (natAdd hxa4.num rq3a4 ?ha ?hb).mono ?_
         case ha => omega
         case hb => omega
         rintro e wa5 ⟨Aa5, na5, ca5, rfl, rq4a5, hna5, hba5⟩
         have hxa5 := hxa4.below hba5
         have hya5 := hya4.below hba5
         have hza5 := hza4.below hba5
         have hta5 := hta4.below hba5
         have rq2a5 := rq2a4.below hba5
         have hWa5 := bstep hWa4 hba5)
      | (go_at_call 15
         with_reducible refine (natCmp_eq rq2a5 rq4a5 e2.out).mono ?_
         rintro e wa6 ⟨rfl, hba6⟩
         have hxa6 := hxa5.below hba6
         have hya6 := hya5.below hba6
         have hza6 := hza5.below hba6
         have hta6 := hta5.below hba6
         have hWa6 := bstep hWa5 hba6)
      | (go_at_call 25
         with_reducible refine (natMul hxa6.num hya6.num ?ha ?hb).mono ?_
         case ha => omega
         case hb => omega
         rintro e wa7 ⟨Aa7, na7, ca7, rfl, rq6a7, hna7, hba7⟩
         have hxa7 := hxa6.below hba7
         have hya7 := hya6.below hba7
         have hza7 := hza6.below hba7
         have hta7 := hta6.below hba7
         have hWa7 := bstep hWa6 hba7)
      | (go_at_call 25
         with_reducible refine (natMul hya7.num hxa7.num ?ha ?hb).mono ?_
         case ha => omega
         case hb => omega
         rintro e wa8 ⟨Aa8, na8, ca8, rfl, rq7a8, hna8, hba8⟩
         have hxa8 := hxa7.below hba8
         have hya8 := hya7.below hba8
         have hza8 := hza7.below hba8
         have hta8 := hta7.below hba8
         have rq6a8 := rq6a7.below hba8
         have hWa8 := bstep hWa7 hba8)
      | (go_at_call 15
         with_reducible refine (natCmp_eq rq6a8 rq7a8 e3.out).mono ?_
         rintro e wa9 ⟨rfl, hba9⟩
         have hxa9 := hxa8.below hba9
         have hya9 := hya8.below hba9
         have hza9 := hza8.below hba9
         have hta9 := hta8.below hba9
         have hWa9 := bstep hWa8 hba9)
      | (go_at_call 25
         with_reducible refine (natMul hxa9.num hya9.num ?ha ?hb).mono ?_
         case ha => omega
         case hb => omega
         rintro e wa10 ⟨Aa10, na10, ca10, rfl, rq9a10, hna10, hba10⟩
         have hxa10 := hxa9.below hba10
         have hya10 := hya9.below hba10
         have hza10 := hza9.below hba10
         have hta10 := hta9.below hba10
         have hWa10 := bstep hWa9 hba10)
      | (go_at_call 25
         with_reducible refine (natMul rq9a10 hza10.num ?ha ?hb).mono ?_
         case ha => omega
         case hb => omega
         rintro e wa11 ⟨Aa11, na11, ca11, rfl, rq10a11, hna11, hba11⟩
         have hxa11 := hxa10.below hba11
         have hya11 := hya10.below hba11
         have hza11 := hza10.below hba11
         have hta11 := hta10.below hba11
         have hWa11 := bstep hWa10 hba11)
      | (go_at_call 25
         with_reducible refine (natMul hya11.num hza11.num ?ha ?hb).mono ?_
         case ha => omega
         case hb => omega
         rintro e wa12 ⟨Aa12, na12, ca12, rfl, rq11a12, hna12, hba12⟩
         have hxa12 := hxa11.below hba12
         have hya12 := hya11.below hba12
         have hza12 := hza11.below hba12
         have hta12 := hta11.below hba12
         have rq10a12 := rq10a11.below hba12
         have hWa12 := bstep hWa11 hba12)
      | (go_at_call 25
         with_reducible refine (natMul hxa12.num rq11a12 ?ha ?hb).mono ?_
         case ha => omega
         case hb => omega
         rintro e wa13 ⟨Aa13, na13, ca13, rfl, rq12a13, hna13, hba13⟩
         have hxa13 := hxa12.below hba13
         have hya13 := hya12.below hba13
         have hza13 := hza12.below hba13
         have hta13 := hta12.below hba13
         have rq10a13 := rq10a12.below hba13
         have hWa13 := bstep hWa12 hba13)
      | (go_at_call 15
         with_reducible refine (natCmp_eq rq10a13 rq12a13 e4.out).mono ?_
         rintro e wa14 ⟨rfl, hba14⟩
         have hxa14 := hxa13.below hba14
         have hya14 := hya13.below hba14
         have hza14 := hza13.below hba14
         have hta14 := hta13.below hba14
         have hWa14 := bstep hWa13 hba14)
      | (go_at_call 25
         with_reducible refine (natMul hta14.num hza14.num ?ha ?hb).mono ?_
         case ha => omega
         case hb => omega
         rintro e wa15 ⟨Aa15, na15, ca15, rfl, rq14a15, hna15, hba15⟩
         have hxa15 := hxa14.below hba15
         have hya15 := hya14.below hba15
         have hza15 := hza14.below hba15
         have hta15 := hta14.below hba15
         have hWa15 := bstep hWa14 hba15)
      | (go_at_call 25
         with_reducible refine (natMul hxa15.num hza15.num ?ha ?hb).mono ?_
         case ha => omega
         case hb => omega
         rintro e wa16 ⟨Aa16, na16, ca16, rfl, rq15a16, hna16, hba16⟩
         have hxa16 := hxa15.below hba16
         have hya16 := hya15.below hba16
         have hza16 := hza15.below hba16
         have hta16 := hta15.below hba16
         have rq14a16 := rq14a15.below hba16
         have hWa16 := bstep hWa15 hba16)
      | (go_at_call 25
         with_reducible refine (natMul hya16.num hza16.num ?ha ?hb).mono ?_
         case ha => omega
         case hb => omega
         rintro e wa17 ⟨Aa17, na17, ca17, rfl, rq16a17, hna17, hba17⟩
         have hxa17 := hxa16.below hba17
         have hya17 := hya16.below hba17
         have hza17 := hza16.below hba17
         have hta17 := hta16.below hba17
         have rq14a17 := rq14a16.below hba17
         have rq15a17 := rq15a16.below hba17
         have hWa17 := bstep hWa16 hba17)
      | (go_at_call 24
         with_reducible refine (natAdd rq15a17 rq16a17 ?ha ?hb).mono ?_
         case ha => omega
         case hb => omega
         rintro e wa18 ⟨Aa18, na18, ca18, rfl, rq17a18, hna18, hba18⟩
         have hxa18 := hxa17.below hba18
         have hya18 := hya17.below hba18
         have hza18 := hza17.below hba18
         have hta18 := hta17.below hba18
         have rq14a18 := rq14a17.below hba18
         have hWa18 := bstep hWa17 hba18)
      | (go_at_call 15
         with_reducible refine (natCmp_eq rq14a18 rq17a18 e5.out).mono ?_
         rintro e wa19 ⟨rfl, hba19⟩
         have hxa19 := hxa18.below hba19
         have hya19 := hya18.below hba19
         have hza19 := hza18.below hba19
         have hta19 := hta18.below hba19
         have hWa19 := bstep hWa18 hba19))
  clear hba19 rq14a18 hWa18 hta18 hza18 hya18 hxa18 hna18 rq17a18 hba18 rq15a17 rq14a17 hWa17 hta17 hza17 hya17 hxa17 hna17 rq16a17 hba17 rq14a16 hWa16 hta16 hza16 hya16 hxa16 hna16 rq15a16 hba16 hWa15 hta15 hza15 hya15 hxa15 hna15 rq14a15 hba15 hWa14 hta14 hza14 hya14 hxa14 hba14 rq10a13 hWa13 hta13 hza13 hya13 hxa13 hna13 rq12a13 hba13 rq10a12 hWa12 hta12 hza12 hya12 hxa12 hna12 rq11a12 hba12 hWa11 hta11 hza11 hya11 hxa11 hna11 rq10a11 hba11 hWa10 hta10 hza10 hya10 hxa10 hna10 rq9a10 hba10 hWa9 hta9 hza9 hya9 hxa9 hba9 rq6a8 hWa8 hta8 hza8 hya8 hxa8 hna8 rq7a8 hba8 hWa7 hta7 hza7 hya7 hxa7 hna7 rq6a7 hba7 hWa6 hta6 hza6 hya6 hxa6 hba6 rq2a5 hWa5 hta5 hza5 hya5 hxa5 hna5 rq4a5 hba5 rq2a4 hWa4 hta4 hza4 hya4 hxa4 hna4 rq3a4 hba4 hWa3 hta3 hza3 hya3 hxa3 hna3 rq2a3 hba3 hWa2 hta2 hza2 hya2 hxa2 hba2 hWa1 hta1 hza1 hya1 hxa1 hna1 rq0a1 hba1 hWa hta hza hya hxa
  go_wp2_with fail
  refine (natSub hta19.num hya19.num (by omega) (by omega) (by omega)).mono ?_
  rintro e w5 ⟨A5, n5, c5, rfl, hd5, hn5, hb5⟩
  rw [Nat.add_sub_cancel] at hd5
  go_wp2_with fail
  have hb6 : Below w5.heap.size w5 (w5.alloc (.cells #[.slice A5 n5 c5] 28)) := (Below.refl _ _).alloc (Nat.le_refl _) _
  have hdb := (Box.new hd5).drew
  have htb := ((hta19.below hb5).below hb6).drew
  have hxb := ((hxa19.below hb5).below hb6).drew
  have hyb := ((hya19.below hb5).below hb6).drew
  have hzb := ((hza19.below hb5).below hb6).drew
  have hWb := (bstep (bstep hWa19 hb5) hb6).drew
  clear hd5 hb5 hb6 hta19 hxa19 hya19 hza19 hWa19
  generalize w5.alloc (.cells #[.slice A5 n5 c5] 28) = R at *
  generalize w5.heap.size = g5 at *
  have e6 := Lib.hid (show X = X from rfl)
  obtain ⟨z7, e7, hz70⟩ : ∃ z : Int, cmpI (X + Y) X = z ∧ 0 ≤ z := by
    refine ⟨_, rfl, ?_⟩
    unfold cmpI
    rw [if_neg (by omega)]
    split <;> omega
  have e7 := Lib.hid e7
  have hz7 : decide (z7 < 0) = false := by simp; omega
  have e8 := Lib.hid (Nat.mul_one X)
  have e9 := Lib.hid (Nat.mul_zero X)
  go_region_held3 (fun w' => w'.cell? ⟨g1, 0, none⟩ = some (.slice A1 n1 c1) ∧ w'.cell? ⟨g2, 0, none⟩ = some (.slice A2 n2 c2) ∧ w'.cell? ⟨g3, 0, none⟩ = some (.slice A3 n3 c3) ∧ w'.cell? ⟨g4, 0, none⟩ = some (.slice A4 n4 c4) ∧ w'.cell? ⟨g5, 0, none⟩ = some (.slice A5 n5 c5)) (first | exact ⟨hxb7.cell, hyb7.cell, hzb7.cell, htb7.cell, hdb7.cell⟩ | exact ⟨hxb6.cell, hyb6.cell, hzb6.cell, htb6.cell, hdb6.cell⟩ | exact ⟨hxb5.cell, hyb5.cell, hzb5.cell, htb5.cell, hdb5.cell⟩ | exact ⟨hxb4.cell, hyb4.cell, hzb4.cell, htb4.cell, hdb4.cell⟩ | exact ⟨hxb3.cell, hyb3.cell, hzb3.cell, htb3.cell, hdb3.cell⟩ | exact ⟨hxb2.cell, hyb2.cell, hzb2.cell, htb2.cell, hdb2.cell⟩ | exact ⟨hxb1.cell, hyb1.cell, hzb1.cell, htb1.cell, hdb1.cell⟩ | exact ⟨hxb.cell, hyb.cell, hzb.cell, htb.cell, hdb.cell⟩)
    (first
      | (go_at_call 15
         with_reducible refine (natCmp_eq hdb.num hxb.num e6.out).mono ?_
         rintro e wb1 ⟨rfl, hbb1⟩
         have hxb1 := hxb.below hbb1
         have hyb1 := hyb.below hbb1
         have hzb1 := hzb.below hbb1
         have htb1 := htb.below hbb1
         have hdb1 := hdb.below hbb1
         have hWb1 := bstep hWb hbb1)
      | (go_at_call 15
         with_reducible refine (natCmp_is htb1.num hxb1.num e7.out).mono ?_
         rintro e wb2 ⟨rfl, hbb2⟩
         have hxb2 := hxb1.below hbb2
         have hyb2 := hyb1.below hbb2
         have hzb2 := hzb1.below hbb2
         have htb2 := htb1.below hbb2
         have hdb2 := hdb1.below hbb2
         have hWb2 := bstep hWb1 hbb2)
      | (go_at_call 13
         with_reducible refine (of1 _).mono ?_
         rintro e wb3 ⟨Ab3, nb3, cb3, rfl, rq2b3, hnb3, hbb3⟩
         have hxb3 := hxb2.below hbb3
         have hyb3 := hyb2.below hbb3
         have hzb3 := hzb2.below hbb3
         have htb3 := htb2.below hbb3
         have hdb3 := hdb2.below hbb3
         have hWb3 := bstep hWb2 hbb3)
      | (go_at_call 25
         with_reducible refine (natMul hxb3.num rq2b3 ?ha ?hb).mono ?_
         case ha => omega
         case hb => omega
         rintro e wb4 ⟨Ab4, nb4, cb4, rfl, rq3b4, hnb4, hbb4⟩
         have hxb4 := hxb3.below hbb4
         have hyb4 := hyb3.below hbb4
         have hzb4 := hzb3.below hbb4
         have htb4 := htb3.below hbb4
         have hdb4 := hdb3.below hbb4
         have hWb4 := bstep hWb3 hbb4)
      | (go_at_call 15
         with_reducible refine (natCmp_eq rq3b4 hxb4.num e8.out).mono ?_
         rintro e wb5 ⟨rfl, hbb5⟩
         have hxb5 := hxb4.below hbb5
         have hyb5 := hyb4.below hbb5
         have hzb5 := hzb4.below hbb5
         have htb5 := htb4.below hbb5
         have hdb5 := hdb4.below hbb5
         have hWb5 := bstep hWb4 hbb5)
      | (go_at_call 25
         with_reducible refine (natMul hxb5.num (Num.zero _ 0) ?ha ?hb).mono ?_
         case ha => omega
         case hb => omega
         rintro e wb6 ⟨Ab6, nb6, cb6, rfl, rq5b6, hnb6, hbb6⟩
         have hxb6 := hxb5.below hbb6
         have hyb6 := hyb5.below hbb6
         have hzb6 := hzb5.below hbb6
         have htb6 := htb5.below hbb6
         have hdb6 := hdb5.below hbb6
         have hWb6 := bstep hWb5 hbb6)
      | (go_at_call 28
         with_reducible refine (natLen0 rq5b6 e9.out).mono ?_
         rintro e wb7 ⟨rfl, hbb7⟩
         have hxb7 := hxb6.below hbb7
         have hyb7 := hyb6.below hbb7
         have hzb7 := hzb6.below hbb7
         have htb7 := htb6.below hbb7
         have hdb7 := hdb6.below hbb7
         have hWb7 := bstep hWb6 hbb7))
  clear hbb7 hWb6 hdb6 htb6 hzb6 hyb6 hxb6 hnb6 rq5b6 hbb6 hWb5 hdb5 htb5 hzb5 hyb5 hxb5 hbb5 hWb4 hdb4 htb4 hzb4 hyb4 hxb4 hnb4 rq3b4 hbb4 hWb3 hdb3 htb3 hzb3 hyb3 hxb3 hnb3 rq2b3 hbb3 hWb2 hdb2 htb2 hzb2 hyb2 hxb2 hbb2 hWb1 hdb1 htb1 hzb1 hyb1 hxb1 hbb1 hWb hdb htb hzb hyb hxb
  clear e1 e2 e3 e4 e5 e6 e7 e8 e9 hz7 hz70
  rcases Nat.lt_trichotomy X Y with hlt | heq | hgt
  · have e10 := Lib.hid (cmpI_lt hlt)
    have e11 := Lib.hid (cmpI_lt (show X + Z < Y + Z by omega))
    have hsub := natSub_less' hxb7.num hyb7.num hlt
    clear hlt
    go_wp2_with fail
    refine hsub.mono ?_
    clear hsub
    rintro e w8 ⟨A8, n8, c8, rfl, hf8, hb7⟩
    have k1 := (hxb7.below hb7).cell
    have k2 := (hxb7.below hb7).lt
    have k3 := (hyb7.below hb7).cell
    have k4 := (hyb7.below hb7).lt
    go_wp2_with fail
    clear k1 k2 k3 k4
    have hb8 : Below w8.heap.size w8 (w8.alloc (.cells #[.slice A8 n8 c8] 28)) := (Below.refl _ _).alloc (Nat.le_refl _) _
    have hfc := Box.new hf8
    have hxc := (hxb7.below hb7).below hb8
    have hyc := (hyb7.below hb7).below hb8
    have hzc := (hzb7.below hb7).below hb8
    have hWc := bstep (bstep hWb7 hb7) hb8
    clear hf8 hb7 hb8 hxb7 hyb7 hzb7 hWb7
    generalize w8.alloc (.cells #[.slice A8 n8 c8] 28) = T at *
    generalize w8.heap.size = g6 at *
    refine (natCmp_is hxc.num hyc.num e10.out).mono ?_
    rintro e w9 ⟨rfl, hb9⟩
    have hfd := (hfc.below hb9).drew
    have hxd := (hxc.below hb9).drew
    have hyd := (hyc.below hb9).drew
    have hzd := (hzc.below hb9).drew
    have hWd := (bstep hWc hb9).drew
    clear hfc hxc hyc hzc hWc hb9
    go_wp2_with fail
    refine wp_region_noPanic ?_
    refine wp_region_held_drew (S := fun w' => w'.cell? ⟨g1, 0, none⟩ = some (.slice A1 n1 c1) ∧ w'.cell? ⟨g2, 0, none⟩ = some (.slice A2 n2 c2) ∧ w'.cell? ⟨g3, 0, none⟩ = some (.slice A3 n3 c3) ∧ w'.cell? ⟨g6, 0, none⟩ = some (.slice A8 n8 c8)) (by kernel_rfl) (⟨hxd.cell, hyd.cell, hzd.cell, hfd.cell⟩) (fun hHeld => ?_)
    refine wpAnyH_take (i := 0) (oi := { dst := some 139, op := Go.Op.move (Go.Operand.tmp 14), type := 40, pos := "law.go:103", after := #[], guard := none }) (v := ?_) rfl (by kernel_rfl) (by kernel_rfl) (by kernel_rfl) (fun _ _ _ h => h) (Or.inl ⟨by rfl, ?_⟩) hHeld ?_
    rotate_left 1
    · (intro w hSw; (try dsimp only at hSw); go_simp; (try with_reducible rfl))
    simp only [Act.put, List.setIfInBounds_toArray, List.set_cons_succ, List.set_cons_zero]
    refine wpAnyH_take (i := 1) (oi := { dst := some 140, op := Go.Op.binOp Go.BinOp.eql 40 (Go.Operand.tmp 139) (Go.Operand.const (Go.Value.int Go.IntKind.i64 0)) 40, type := 4, pos := "law.go:103", after := #[{ on := 0, ground := Go.Ground.data }], guard := none }) (v := ?_) rfl (by kernel_rfl) (by kernel_rfl) (by kernel_rfl) (fun _ _ _ h => h) (Or.inl ⟨by rfl, ?_⟩) hHeld ?_
    rotate_left 1
    · (intro w hSw; (try dsimp only at hSw); go_simp; (try with_reducible rfl))
    simp only [Act.put, List.setIfInBounds_toArray, List.set_cons_succ, List.set_cons_zero]
    refine wpAnyH_take (i := 2) (oi := { dst := some 141, op := Go.Op.move (Go.Operand.tmp 15), type := 3, pos := "law.go:103", after := #[], guard := none }) (v := ?_) rfl (by kernel_rfl) (by kernel_rfl) (by kernel_rfl) (fun _ _ _ h => h) (Or.inl ⟨by rfl, ?_⟩) hHeld ?_
    rotate_left 1
    · (intro w hSw; (try dsimp only at hSw); go_simp; (try with_reducible rfl))
    simp only [Act.put, List.setIfInBounds_toArray, List.set_cons_succ, List.set_cons_zero]
    refine wpAnyH_take (i := 3) (oi := { dst := some 142, op := Go.Op.binOp Go.BinOp.geq 3 (Go.Operand.tmp 141) (Go.Operand.const (Go.Value.int Go.IntKind.i64 0)) 3, type := 4, pos := "law.go:103", after := #[{ on := 2, ground := Go.Ground.data }], guard := none }) (v := ?_) rfl (by kernel_rfl) (by kernel_rfl) (by kernel_rfl) (fun _ _ _ h => h) (Or.inl ⟨by rfl, ?_⟩) hHeld ?_
    rotate_left 1
    · (intro w hSw; (try dsimp only at hSw); go_simp; (try with_reducible rfl))
    simp only [Act.put, List.setIfInBounds_toArray, List.set_cons_succ, List.set_cons_zero]
    refine wpAnyH_take (i := 4) (oi := { dst := some 143, op := Go.Op.binOp Go.BinOp.eql 4 (Go.Operand.tmp 140) (Go.Operand.tmp 142) 4, type := 4, pos := "law.go:103", after := #[{ on := 1, ground := Go.Ground.data }, { on := 3, ground := Go.Ground.data }], guard := none }) (v := ?_) rfl (by kernel_rfl) (by kernel_rfl) (by kernel_rfl) (fun _ _ _ h => h) (Or.inl ⟨by rfl, ?_⟩) hHeld ?_
    rotate_left 1
    · (intro w hSw; (try dsimp only at hSw); go_simp; (try with_reducible rfl))
    simp only [Act.put, List.setIfInBounds_toArray, List.set_cons_succ, List.set_cons_zero]
    refine wpAnyH_take (i := 5) (oi := { dst := some 144, op := Go.Op.move (Go.Operand.tmp 143), type := 4, pos := "law.go:103", after := #[{ on := 4, ground := Go.Ground.data }], guard := none }) (v := ?_) rfl (by kernel_rfl) (by kernel_rfl) (by kernel_rfl) (fun _ _ _ h => h) (Or.inl ⟨by rfl, ?_⟩) hHeld ?_
    rotate_left 1
    · (intro w hSw; (try dsimp only at hSw); go_simp; (try with_reducible rfl))
    simp only [Act.put, List.setIfInBounds_toArray, List.set_cons_succ, List.set_cons_zero]
    refine wpAnyH_take (i := 6) (oi := { dst := some 145, op := Go.Op.move (Go.Operand.tmp 15), type := 3, pos := "law.go:103", after := #[{ on := 5, ground := Go.Ground.guard }], guard := some (5, true) }) (v := ?_) rfl (by kernel_rfl) (by kernel_rfl) (by kernel_rfl) (fun _ _ _ h => h) (Or.inl ⟨by rfl, ?_⟩) hHeld ?_
    rotate_left 1
    · (intro w hSw; (try dsimp only at hSw); go_simp; (try with_reducible rfl))
    simp only [Act.put, List.setIfInBounds_toArray, List.set_cons_succ, List.set_cons_zero]
    refine wpAnyH_take (i := 7) (oi := { dst := some 146, op := Go.Op.binOp Go.BinOp.eql 3 (Go.Operand.tmp 145) (Go.Operand.const (Go.Value.int Go.IntKind.i64 0)) 3, type := 4, pos := "law.go:103", after := #[{ on := 6, ground := Go.Ground.data }, { on := 5, ground := Go.Ground.guard }], guard := some (5, true) }) (v := ?_) rfl (by kernel_rfl) (by kernel_rfl) (by kernel_rfl) (fun _ _ _ h => h) (Or.inl ⟨by rfl, ?_⟩) hHeld ?_
    rotate_left 1
    · (intro w hSw; (try dsimp only at hSw); go_simp; (try with_reducible rfl))
    simp only [Act.put, List.setIfInBounds_toArray, List.set_cons_succ, List.set_cons_zero]
    refine wpAnyH_take (i := 8) (oi := { dst := some 147, op := Go.Op.move (Go.Operand.tmp 14), type := 40, pos := "law.go:103", after := #[{ on := 5, ground := Go.Ground.guard }], guard := some (5, true) }) (v := ?_) rfl (by kernel_rfl) (by kernel_rfl) (by kernel_rfl) (fun _ _ _ h => h) (Or.inl ⟨by rfl, ?_⟩) hHeld ?_
    rotate_left 1
    · (intro w hSw; (try dsimp only at hSw); go_simp; (try with_reducible rfl))
    simp only [Act.put, List.setIfInBounds_toArray, List.set_cons_succ, List.set_cons_zero]
    refine wpAnyH_take (i := 9) (oi := { dst := some 148, op := Go.Op.binOp Go.BinOp.eql 40 (Go.Operand.tmp 147) (Go.Operand.const (Go.Value.int Go.IntKind.i64 0)) 40, type := 4, pos := "law.go:103", after := #[{ on := 8, ground := Go.Ground.data }, { on := 5, ground := Go.Ground.guard }], guard := some (5, true) }) (v := ?_) rfl (by kernel_rfl) (by kernel_rfl) (by kernel_rfl) (fun _ _ _ h => h) (Or.inl ⟨by rfl, ?_⟩) hHeld ?_
    rotate_left 1
    · (intro w hSw; (try dsimp only at hSw); go_simp; (try with_reducible rfl))
    simp only [Act.put, List.setIfInBounds_toArray, List.set_cons_succ, List.set_cons_zero]
    refine wpAnyH_take (i := 10) (oi := { dst := some 149, op := Go.Op.move (Go.Operand.tmp 148), type := 4, pos := "law.go:103", after := #[{ on := 9, ground := Go.Ground.data }, { on := 5, ground := Go.Ground.chain }, { on := 5, ground := Go.Ground.guard }], guard := some (5, true) }) (v := ?_) rfl (by kernel_rfl) (by kernel_rfl) (by kernel_rfl) (fun _ _ _ h => h) (Or.inl ⟨by rfl, ?_⟩) hHeld ?_
    rotate_left 1
    · (intro w hSw; (try dsimp only at hSw); go_simp; (try with_reducible rfl))
    simp only [Act.put, List.setIfInBounds_toArray, List.set_cons_succ, List.set_cons_zero]
    refine wpAnyH_take (i := 11) (oi := { dst := some 150, op := Go.Op.load 28 (Go.Operand.tmp 13), type := 28, pos := "law.go:103", after := #[{ on := 10, ground := Go.Ground.guard }], guard := some (10, true) }) (v := undef) rfl (by kernel_rfl) (by kernel_rfl) (by kernel_rfl) (fun _ _ _ h => h) (Or.inr ⟨by rfl, rfl⟩) hHeld ?_
    simp only [Act.put, List.setIfInBounds_toArray, List.set_cons_succ, List.set_cons_zero]
    refine wpAnyH_take (i := 12) (oi := { dst := some 151, op := Go.Op.call { callee := Go.Callee.value (Go.Operand.func 28), args := #[Go.Operand.tmp 150], argTypes := #[28] }, type := 3, pos := "law.go:103", after := #[{ on := 11, ground := Go.Ground.data }, { on := 10, ground := Go.Ground.chain }, { on := 10, ground := Go.Ground.guard }], guard := some (10, true) }) (v := undef) rfl (by kernel_rfl) (by kernel_rfl) (by kernel_rfl) (fun _ _ _ h => h) (Or.inr ⟨by rfl, rfl⟩) hHeld ?_
    simp only [Act.put, List.setIfInBounds_toArray, List.set_cons_succ, List.set_cons_zero]
    refine wpAnyH_take (i := 13) (oi := { dst := some 152, op := Go.Op.binOp Go.BinOp.eql 3 (Go.Operand.tmp 151) (Go.Operand.const (Go.Value.int Go.IntKind.i64 0)) 3, type := 4, pos := "law.go:103", after := #[{ on := 12, ground := Go.Ground.data }, { on := 10, ground := Go.Ground.guard }], guard := some (10, true) }) (v := undef) rfl (by kernel_rfl) (by kernel_rfl) (by kernel_rfl) (fun _ _ _ h => h) (Or.inr ⟨by rfl, rfl⟩) hHeld ?_
    simp only [Act.put, List.setIfInBounds_toArray, List.set_cons_succ, List.set_cons_zero]
    refine wpAnyH_take (i := 14) (oi := { dst := some 153, op := Go.Op.pick (Go.Operand.tmp 149) (Go.Operand.tmp 152) (Go.Operand.const (Go.Value.bool false)), type := 4, pos := "law.go:103", after := #[{ on := 10, ground := Go.Ground.data }, { on := 13, ground := Go.Ground.data }, { on := 5, ground := Go.Ground.guard }], guard := some (5, true) }) (v := ?_) rfl (by kernel_rfl) (by kernel_rfl) (by kernel_rfl) (fun _ _ _ h => h) (Or.inl ⟨by rfl, ?_⟩) hHeld ?_
    rotate_left 1
    · (intro w hSw; (try dsimp only at hSw); go_simp; (try with_reducible rfl))
    simp only [Act.put, List.setIfInBounds_toArray, List.set_cons_succ, List.set_cons_zero]
    refine wpAnyH_take (i := 15) (oi := { dst := some 154, op := Go.Op.binOp Go.BinOp.eql 4 (Go.Operand.tmp 146) (Go.Operand.tmp 153) 4, type := 4, pos := "law.go:103", after := #[{ on := 7, ground := Go.Ground.data }, { on := 14, ground := Go.Ground.data }, { on := 5, ground := Go.Ground.guard }], guard := some (5, true) }) (v := ?_) rfl (by kernel_rfl) (by kernel_rfl) (by kernel_rfl) (fun _ _ _ h => h) (Or.inl ⟨by rfl, ?_⟩) hHeld ?_
    rotate_left 1
    · (intro w hSw; (try dsimp only at hSw); go_simp; (try with_reducible rfl))
    simp only [Act.put, List.setIfInBounds_toArray, List.set_cons_succ, List.set_cons_zero]
    refine wpAnyH_take (i := 16) (oi := { dst := some 155, op := Go.Op.pick (Go.Operand.tmp 144) (Go.Operand.tmp 154) (Go.Operand.const (Go.Value.bool false)), type := 4, pos := "law.go:103", after := #[{ on := 5, ground := Go.Ground.data }, { on := 15, ground := Go.Ground.data }], guard := none }) (v := ?_) rfl (by kernel_rfl) (by kernel_rfl) (by kernel_rfl) (fun _ _ _ h => h) (Or.inl ⟨by rfl, ?_⟩) hHeld ?_
    rotate_left 1
    · (intro w hSw; (try dsimp only at hSw); go_simp; (try with_reducible rfl))
    simp only [Act.put, List.setIfInBounds_toArray, List.set_cons_succ, List.set_cons_zero]
    refine wpAnyH_take (i := 17) (oi := { dst := some 156, op := Go.Op.move (Go.Operand.tmp 155), type := 4, pos := "law.go:103", after := #[{ on := 16, ground := Go.Ground.data }, { on := 12, ground := Go.Ground.chain }], guard := none }) (v := ?_) rfl (by kernel_rfl) (by kernel_rfl) (by kernel_rfl) (fun _ _ _ h => h) (Or.inl ⟨by rfl, ?_⟩) hHeld ?_
    rotate_left 1
    · (intro w hSw; (try dsimp only at hSw); go_simp; (try with_reducible rfl))
    simp only [Act.put, List.setIfInBounds_toArray, List.set_cons_succ, List.set_cons_zero]
    refine wpAnyH_take (i := 18) (oi := { dst := some 157, op := Go.Op.load 28 (Go.Operand.tmp 7), type := 28, pos := "law.go:103", after := #[{ on := 17, ground := Go.Ground.guard }], guard := some (17, true) }) (v := ?_) rfl (by kernel_rfl) (by kernel_rfl) (by kernel_rfl) (fun _ _ _ h => h) (Or.inl ⟨by rfl, ?_⟩) hHeld ?_
    rotate_left 1
    · (intro w hSw; (try dsimp only at hSw); go_simp; (try with_reducible rfl))
    simp only [Act.put, List.setIfInBounds_toArray, List.set_cons_succ, List.set_cons_zero]
    refine wpAnyH_take (i := 19) (oi := { dst := some 158, op := Go.Op.load 28 (Go.Operand.tmp 9), type := 28, pos := "law.go:103", after := #[{ on := 17, ground := Go.Ground.guard }], guard := some (17, true) }) (v := ?_) rfl (by kernel_rfl) (by kernel_rfl) (by kernel_rfl) (fun _ _ _ h => h) (Or.inl ⟨by rfl, ?_⟩) hHeld ?_
    rotate_left 1
    · (intro w hSw; (try dsimp only at hSw); go_simp; (try with_reducible rfl))
    simp only [Act.put, List.setIfInBounds_toArray, List.set_cons_succ, List.set_cons_zero]
    refine wpAnyH_take (i := 21) (oi := { dst := some 160, op := Go.Op.load 28 (Go.Operand.tmp 8), type := 28, pos := "law.go:103", after := #[{ on := 17, ground := Go.Ground.guard }], guard := some (17, true) }) (v := ?_) rfl (by kernel_rfl) (by kernel_rfl) (by kernel_rfl) (fun _ _ _ h => h) (Or.inl ⟨by rfl, ?_⟩) hHeld ?_
    rotate_left 1
    · (intro w hSw; (try dsimp only at hSw); go_simp; (try with_reducible rfl))
    simp only [Act.put, List.setIfInBounds_toArray, List.set_cons_succ, List.set_cons_zero]
    refine wpAnyH_take (i := 22) (oi := { dst := some 161, op := Go.Op.load 28 (Go.Operand.tmp 9), type := 28, pos := "law.go:103", after := #[{ on := 17, ground := Go.Ground.guard }], guard := some (17, true) }) (v := ?_) rfl (by kernel_rfl) (by kernel_rfl) (by kernel_rfl) (fun _ _ _ h => h) (Or.inl ⟨by rfl, ?_⟩) hHeld ?_
    rotate_left 1
    · (intro w hSw; (try dsimp only at hSw); go_simp; (try with_reducible rfl))
    simp only [Act.put, List.setIfInBounds_toArray, List.set_cons_succ, List.set_cons_zero]
    refine wpAnyH_take (i := 25) (oi := { dst := some 164, op := Go.Op.move (Go.Operand.tmp 15), type := 3, pos := "law.go:103", after := #[{ on := 17, ground := Go.Ground.guard }], guard := some (17, true) }) (v := ?_) rfl (by kernel_rfl) (by kernel_rfl) (by kernel_rfl) (fun _ _ _ h => h) (Or.inl ⟨by rfl, ?_⟩) hHeld ?_
    rotate_left 1
    · (intro w hSw; (try dsimp only at hSw); go_simp; (try with_reducible rfl))
    simp only [Act.put, List.setIfInBounds_toArray, List.set_cons_succ, List.set_cons_zero]
    refine wpAnyH_ready (rs := [20]) (by kernel_rfl) (by simp) ?_
    refine AllReadyH.cons (o := { dst := some 159, op := Go.Op.call { callee := Go.Callee.value (Go.Operand.func 24), args := #[Go.Operand.tmp 157, Go.Operand.tmp 158], argTypes := #[28, 28] }, type := 28, pos := "law.go:103", after := #[{ on := 18, ground := Go.Ground.data }, { on := 19, ground := Go.Ground.data }, { on := 17, ground := Go.Ground.chain }, { on := 17, ground := Go.Ground.guard }], guard := some (17, true) }) rfl (fun K hK => ?_) AllReadyH.nil
    go_simp
    refine (natAdd hxd.num hzd.num (by omega) (by omega)).mono ?_
    rintro e wd1 ⟨Ad1, nd1, cd1, rfl, rq0d1, hnd1, hbd1⟩
    have hxd1 := hxd.below hbd1
    have hyd1 := hyd.below hbd1
    have hzd1 := hzd.below hbd1
    have hfd1 := hfd.below hbd1
    have hWd1 := bstep hWd hbd1
    refine hK.out _ _ (⟨hxd1.cell, hyd1.cell, hzd1.cell, hfd1.cell⟩) (fun hHeld => ?_)
    clear hK K
    refine wpAnyH_ready (rs := [23]) (by kernel_rfl) (by simp) ?_
    refine AllReadyH.cons (o := { dst := some 162, op := Go.Op.call { callee := Go.Callee.value (Go.Operand.func 24), args := #[Go.Operand.tmp 160, Go.Operand.tmp 161], argTypes := #[28, 28] }, type := 28, pos := "law.go:103", after := #[{ on := 21, ground := Go.Ground.data }, { on := 22, ground := Go.Ground.data }, { on := 20, ground := Go.Ground.chain }, { on := 17, ground := Go.Ground.guard }], guard := some (17, true) }) rfl (fun K hK => ?_) AllReadyH.nil
    go_simp
    refine (natAdd hyd1.num hzd1.num (by omega) (by omega)).mono ?_
    rintro e wd2 ⟨Ad2, nd2, cd2, rfl, rq1d2, hnd2, hbd2⟩
    have hxd2 := hxd1.below hbd2
    have hyd2 := hyd1.below hbd2
    have hzd2 := hzd1.below hbd2
    have hfd2 := hfd1.below hbd2
    have hWd2 := bstep hWd1 hbd2
    have rq0d2 := rq0d1.below hbd2
    refine hK.out _ _ (⟨hxd2.cell, hyd2.cell, hzd2.cell, hfd2.cell⟩) (fun hHeld => ?_)
    clear hK K
    refine wpAnyH_ready (rs := [24]) (by kernel_rfl) (by simp) ?_
    refine AllReadyH.cons (o := { dst := some 163, op := Go.Op.call { callee := Go.Callee.value (Go.Operand.func 15), args := #[Go.Operand.tmp 159, Go.Operand.tmp 162], argTypes := #[28, 28] }, type := 3, pos := "law.go:103", after := #[{ on := 20, ground := Go.Ground.data }, { on := 23, ground := Go.Ground.data }, { on := 23, ground := Go.Ground.chain }, { on := 17, ground := Go.Ground.guard }], guard := some (17, true) }) rfl (fun K hK => ?_) AllReadyH.nil
    go_simp
    refine (natCmp_is rq0d2 rq1d2 e11.out).mono ?_
    rintro e wd3 ⟨rfl, hbd3⟩
    have hxd3 := hxd2.below hbd3
    have hyd3 := hyd2.below hbd3
    have hzd3 := hzd2.below hbd3
    have hfd3 := hfd2.below hbd3
    have hWd3 := bstep hWd2 hbd3
    refine hK.out _ _ (⟨hxd3.cell, hyd3.cell, hzd3.cell, hfd3.cell⟩) (fun hHeld => ?_)
    clear hK K
    refine wpAnyH_take (i := 26) (oi := { dst := some 165, op := Go.Op.binOp Go.BinOp.eql 3 (Go.Operand.tmp 163) (Go.Operand.tmp 164) 3, type := 4, pos := "law.go:103", after := #[{ on := 24, ground := Go.Ground.data }, { on := 25, ground := Go.Ground.data }, { on := 17, ground := Go.Ground.guard }], guard := some (17, true) }) (v := ?_) rfl (by kernel_rfl) (by kernel_rfl) (by kernel_rfl) (fun _ _ _ h => h) (Or.inl ⟨by rfl, ?_⟩) hHeld ?_
    rotate_left 1
    · (intro w hSw; (try dsimp only at hSw); go_simp; (try with_reducible rfl))
    simp only [Act.put, List.setIfInBounds_toArray, List.set_cons_succ, List.set_cons_zero]
    refine wpAnyH_take (i := 27) (oi := { dst := some 166, op := Go.Op.pick (Go.Operand.tmp 156) (Go.Operand.tmp 165) (Go.Operand.const (Go.Value.bool false)), type := 4, pos := "law.go:103", after := #[{ on := 17, ground := Go.Ground.data }, { on := 26, ground := Go.Ground.data }], guard := none }) (v := ?_) rfl (by kernel_rfl) (by kernel_rfl) (by kernel_rfl) (fun _ _ _ h => h) (Or.inl ⟨by rfl, ?_⟩) hHeld ?_
    rotate_left 1
    · (intro w hSw; (try dsimp only at hSw); go_simp; (try with_reducible rfl))
    simp only [Act.put, List.setIfInBounds_toArray, List.set_cons_succ, List.set_cons_zero]
    refine wpAnyH_take (i := 28) (oi := { dst := some 167, op := Go.Op.move (Go.Operand.tmp 166), type := 4, pos := "law.go:103", after := #[{ on := 27, ground := Go.Ground.data }, { on := 24, ground := Go.Ground.chain }], guard := none }) (v := ?_) rfl (by kernel_rfl) (by kernel_rfl) (by kernel_rfl) (fun _ _ _ h => h) (Or.inl ⟨by rfl, ?_⟩) hHeld ?_
    rotate_left 1
    · (intro w hSw; (try dsimp only at hSw); go_simp; (try with_reducible rfl))
    simp only [Act.put, List.setIfInBounds_toArray, List.set_cons_succ, List.set_cons_zero]
    refine wpAnyH_ready (rs := [29]) (by kernel_rfl) (by simp) ?_
    refine AllReadyH.cons (o := { dst := some 168, op := Go.Op.call { callee := Go.Callee.value (Go.Operand.func 7), args := #[], argTypes := #[] }, type := 4, pos := "law.go:103", after := #[{ on := 28, ground := Go.Ground.chain }, { on := 28, ground := Go.Ground.guard }], guard := some (28, true) }) rfl (fun K hK => ?_) AllReadyH.nil
    go_simp
    refine (works_any _).mono ?_
    rintro e wd4 ⟨rfl, hbd4⟩
    have hxd4 := hxd3.below hbd4
    have hyd4 := hyd3.below hbd4
    have hzd4 := hzd3.below hbd4
    have hfd4 := hfd3.below hbd4
    have hWd4 := bstep hWd3 hbd4
    refine hK.out _ _ (⟨hxd4.cell, hyd4.cell, hzd4.cell, hfd4.cell⟩) (fun hHeld => ?_)
    clear hK K
    refine wpAnyH_take (i := 30) (oi := { dst := some 169, op := Go.Op.pick (Go.Operand.tmp 167) (Go.Operand.tmp 168) (Go.Operand.const (Go.Value.bool false)), type := 4, pos := "law.go:103", after := #[{ on := 28, ground := Go.Ground.data }, { on := 29, ground := Go.Ground.data }], guard := none }) (v := ?_) rfl (by kernel_rfl) (by kernel_rfl) (by kernel_rfl) (fun _ _ _ h => h) (Or.inl ⟨by rfl, ?_⟩) hHeld ?_
    rotate_left 1
    · (intro w hSw; (try dsimp only at hSw); go_simp; (try with_reducible rfl))
    simp only [Act.put, List.setIfInBounds_toArray, List.set_cons_succ, List.set_cons_zero]
    refine wpAnyH_take (i := 31) (oi := { dst := some 6, op := Go.Op.assign (Go.Operand.tmp 169), type := 4, pos := "law.go:103", after := #[{ on := 30, ground := Go.Ground.data }, { on := 29, ground := Go.Ground.chain }, { on := 0, ground := Go.Ground.phase }, { on := 1, ground := Go.Ground.phase }, { on := 2, ground := Go.Ground.phase }, { on := 3, ground := Go.Ground.phase }, { on := 4, ground := Go.Ground.phase }, { on := 5, ground := Go.Ground.phase }, { on := 6, ground := Go.Ground.phase }, { on := 7, ground := Go.Ground.phase }, { on := 8, ground := Go.Ground.phase }, { on := 9, ground := Go.Ground.phase }, { on := 10, ground := Go.Ground.phase }, { on := 11, ground := Go.Ground.phase }, { on := 12, ground := Go.Ground.phase }, { on := 13, ground := Go.Ground.phase }, { on := 14, ground := Go.Ground.phase }, { on := 15, ground := Go.Ground.phase }, { on := 16, ground := Go.Ground.phase }, { on := 17, ground := Go.Ground.phase }, { on := 18, ground := Go.Ground.phase }, { on := 19, ground := Go.Ground.phase }, { on := 20, ground := Go.Ground.phase }, { on := 21, ground := Go.Ground.phase }, { on := 22, ground := Go.Ground.phase }, { on := 23, ground := Go.Ground.phase }, { on := 24, ground := Go.Ground.phase }, { on := 25, ground := Go.Ground.phase }, { on := 26, ground := Go.Ground.phase }, { on := 27, ground := Go.Ground.phase }, { on := 28, ground := Go.Ground.phase }, { on := 29, ground := Go.Ground.phase }, { on := 30, ground := Go.Ground.phase }], guard := none }) (v := ?_) rfl (by kernel_rfl) (by kernel_rfl) (by kernel_rfl) (fun _ _ _ h => h) (Or.inl ⟨by rfl, ?_⟩) hHeld ?_
    rotate_left 1
    · (intro w hSw; (try dsimp only at hSw); go_simp; (try with_reducible rfl))
    simp only [Act.put, List.setIfInBounds_toArray, List.set_cons_succ, List.set_cons_zero]
    refine wpAnyH_done (by kernel_rfl) ?_ _
    refine NoPanic.normal ?_
    go_wp2_with fail
    go_ret
    exact ⟨rfl, hWd4⟩
  · have e10 := Lib.hid (cmpI_eq heq)
    have e11 := Lib.hid (cmpI_eq (show X + Z = Y + Z by omega))
    have e12 := Lib.hid (show X - Y = 0 by omega)
    have hsub := natSub hxb7.num hyb7.num (Nat.le_of_eq heq.symm) (by omega) (by omega)
    clear heq
    go_wp2_with fail
    refine hsub.mono ?_
    clear hsub
    rintro e w8 ⟨A8, n8, c8, rfl, hf8, hn8, hb7⟩
    have k1 := (hxb7.below hb7).cell
    have k2 := (hxb7.below hb7).lt
    have k3 := (hyb7.below hb7).cell
    have k4 := (hyb7.below hb7).lt
    go_wp2_with fail
    clear k1 k2 k3 k4
    have hb8 : Below w8.heap.size w8 (w8.alloc (.cells #[.slice A8 n8 c8] 28)) := (Below.refl _ _).alloc (Nat.le_refl _) _
    have hfc := Box.new hf8
    have hxc := (hxb7.below hb7).below hb8
    have hyc := (hyb7.below hb7).below hb8
    have hzc := (hzb7.below hb7).below hb8
    have hWc := bstep (bstep hWb7 hb7) hb8
    clear hf8 hb7 hb8 hxb7 hyb7 hzb7 hWb7
    generalize w8.alloc (.cells #[.slice A8 n8 c8] 28) = T at *
    generalize w8.heap.size = g6 at *
    refine (natCmp_is hxc.num hyc.num e10.out).mono ?_
    rintro e w9 ⟨rfl, hb9⟩
    have hfd := (hfc.below hb9).drew
    have hxd := (hxc.below hb9).drew
    have hyd := (hyc.below hb9).drew
    have hzd := (hzc.below hb9).drew
    have hWd := (bstep hWc hb9).drew
    clear hfc hxc hyc hzc hWc hb9
    go_wp2_with fail
    go_region_held3 (fun w' => w'.cell? ⟨g1, 0, none⟩ = some (.slice A1 n1 c1) ∧ w'.cell? ⟨g2, 0, none⟩ = some (.slice A2 n2 c2) ∧ w'.cell? ⟨g3, 0, none⟩ = some (.slice A3 n3 c3) ∧ w'.cell? ⟨g6, 0, none⟩ = some (.slice A8 n8 c8)) (first | exact ⟨hxd5.cell, hyd5.cell, hzd5.cell, hfd5.cell⟩ | exact ⟨hxd4.cell, hyd4.cell, hzd4.cell, hfd4.cell⟩ | exact ⟨hxd3.cell, hyd3.cell, hzd3.cell, hfd3.cell⟩ | exact ⟨hxd2.cell, hyd2.cell, hzd2.cell, hfd2.cell⟩ | exact ⟨hxd1.cell, hyd1.cell, hzd1.cell, hfd1.cell⟩ | exact ⟨hxd.cell, hyd.cell, hzd.cell, hfd.cell⟩)
      (first
      | (go_at_call 28
         with_reducible refine (natLen0 hfd.num e12.out).mono ?_
         rintro e wd1 ⟨rfl, hbd1⟩
         have hxd1 := hxd.below hbd1
         have hyd1 := hyd.below hbd1
         have hzd1 := hzd.below hbd1
         have hfd1 := hfd.below hbd1
         have hWd1 := bstep hWd hbd1)
      | (go_at_call 24
         with_reducible refine (natAdd hxd1.num hzd1.num ?ha ?hb).mono ?_
         case ha => omega
         case hb => omega
         rintro e wd2 ⟨Ad2, nd2, cd2, rfl, rq1d2, hnd2, hbd2⟩
         have hxd2 := hxd1.below hbd2
         have hyd2 := hyd1.below hbd2
         have hzd2 := hzd1.below hbd2
         have hfd2 := hfd1.below hbd2
         have hWd2 := bstep hWd1 hbd2)
      | (go_at_call 24
         with_reducible refine (natAdd hyd2.num hzd2.num ?ha ?hb).mono ?_
         case ha => omega
         case hb => omega
         rintro e wd3 ⟨Ad3, nd3, cd3, rfl, rq2d3, hnd3, hbd3⟩
         have hxd3 := hxd2.below hbd3
         have hyd3 := hyd2.below hbd3
         have hzd3 := hzd2.below hbd3
         have hfd3 := hfd2.below hbd3
         have rq1d3 := rq1d2.below hbd3
         have hWd3 := bstep hWd2 hbd3)
      | (go_at_call 15
         with_reducible refine (natCmp_is rq1d3 rq2d3 e11.out).mono ?_
         rintro e wd4 ⟨rfl, hbd4⟩
         have hxd4 := hxd3.below hbd4
         have hyd4 := hyd3.below hbd4
         have hzd4 := hzd3.below hbd4
         have hfd4 := hfd3.below hbd4
         have hWd4 := bstep hWd3 hbd4)
      | (go_at_call 7
         with_reducible refine (works_any _).mono ?_
         rintro e wd5 ⟨rfl, hbd5⟩
         have hxd5 := hxd4.below hbd5
         have hyd5 := hyd4.below hbd5
         have hzd5 := hzd4.below hbd5
         have hfd5 := hfd4.below hbd5
         have hWd5 := bstep hWd4 hbd5))
    clear hbd5 hWd4 hfd4 hzd4 hyd4 hxd4 hbd4 rq1d3 hWd3 hfd3 hzd3 hyd3 hxd3 hnd3 rq2d3 hbd3 hWd2 hfd2 hzd2 hyd2 hxd2 hnd2 rq1d2 hbd2 hWd1 hfd1 hzd1 hyd1 hxd1 hbd1 hWd hfd hzd hyd hxd
    go_wp2_with fail
    go_ret
    exact ⟨rfl, hWd5⟩
  · have e10 := Lib.hid (cmpI_gt hgt)
    have e11 := Lib.hid (cmpI_gt (show Y + Z < X + Z by omega))
    have e12 := Lib.hid (show 0 < X - Y by omega)
    have hsub := natSub hxb7.num hyb7.num (Nat.le_of_lt hgt) (by omega) (by omega)
    clear hgt
    go_wp2_with fail
    refine hsub.mono ?_
    clear hsub
    rintro e w8 ⟨A8, n8, c8, rfl, hf8, hn8, hb7⟩
    have hl0 := hf8.ne0 e12.out
    have k1 := (hxb7.below hb7).cell
    have k2 := (hxb7.below hb7).lt
    have k3 := (hyb7.below hb7).cell
    have k4 := (hyb7.below hb7).lt
    go_wp2_with fail
    clear k1 k2 k3 k4
    have hb8 : Below w8.heap.size w8 (w8.alloc (.cells #[.slice A8 n8 c8] 28)) := (Below.refl _ _).alloc (Nat.le_refl _) _
    have hfc := Box.new hf8
    have hxc := (hxb7.below hb7).below hb8
    have hyc := (hyb7.below hb7).below hb8
    have hzc := (hzb7.below hb7).below hb8
    have hWc := bstep (bstep hWb7 hb7) hb8
    clear hf8 hb7 hb8 hxb7 hyb7 hzb7 hWb7
    generalize w8.alloc (.cells #[.slice A8 n8 c8] 28) = T at *
    generalize w8.heap.size = g6 at *
    refine (natCmp_is hxc.num hyc.num e10.out).mono ?_
    rintro e w9 ⟨rfl, hb9⟩
    have hfd := (hfc.below hb9).drew
    have hxd := (hxc.below hb9).drew
    have hyd := (hyc.below hb9).drew
    have hzd := (hzc.below hb9).drew
    have hWd := (bstep hWc hb9).drew
    clear hfc hxc hyc hzc hWc hb9
    go_wp2_with fail
    go_region_held3 (fun w' => w'.cell? ⟨g1, 0, none⟩ = some (.slice A1 n1 c1) ∧ w'.cell? ⟨g2, 0, none⟩ = some (.slice A2 n2 c2) ∧ w'.cell? ⟨g3, 0, none⟩ = some (.slice A3 n3 c3) ∧ w'.cell? ⟨g6, 0, none⟩ = some (.slice A8 n8 c8)) (first | exact ⟨hxd5.cell, hyd5.cell, hzd5.cell, hfd5.cell⟩ | exact ⟨hxd4.cell, hyd4.cell, hzd4.cell, hfd4.cell⟩ | exact ⟨hxd3.cell, hyd3.cell, hzd3.cell, hfd3.cell⟩ | exact ⟨hxd2.cell, hyd2.cell, hzd2.cell, hfd2.cell⟩ | exact ⟨hxd1.cell, hyd1.cell, hzd1.cell, hfd1.cell⟩ | exact ⟨hxd.cell, hyd.cell, hzd.cell, hfd.cell⟩)
      (first
      | (go_at_call 28
         with_reducible refine (natLen _ _ _ _).mono ?_
         rintro e wd1 ⟨rfl, hbd1⟩
         have hxd1 := hxd.below hbd1
         have hyd1 := hyd.below hbd1
         have hzd1 := hzd.below hbd1
         have hfd1 := hfd.below hbd1
         have hWd1 := bstep hWd hbd1)
      | (go_at_call 24
         with_reducible refine (natAdd hxd1.num hzd1.num ?ha ?hb).mono ?_
         case ha => omega
         case hb => omega
         rintro e wd2 ⟨Ad2, nd2, cd2, rfl, rq1d2, hnd2, hbd2⟩
         have hxd2 := hxd1.below hbd2
         have hyd2 := hyd1.below hbd2
         have hzd2 := hzd1.below hbd2
         have hfd2 := hfd1.below hbd2
         have hWd2 := bstep hWd1 hbd2)
      | (go_at_call 24
         with_reducible refine (natAdd hyd2.num hzd2.num ?ha ?hb).mono ?_
         case ha => omega
         case hb => omega
         rintro e wd3 ⟨Ad3, nd3, cd3, rfl, rq2d3, hnd3, hbd3⟩
         have hxd3 := hxd2.below hbd3
         have hyd3 := hyd2.below hbd3
         have hzd3 := hzd2.below hbd3
         have hfd3 := hfd2.below hbd3
         have rq1d3 := rq1d2.below hbd3
         have hWd3 := bstep hWd2 hbd3)
      | (go_at_call 15
         with_reducible refine (natCmp_is rq1d3 rq2d3 e11.out).mono ?_
         rintro e wd4 ⟨rfl, hbd4⟩
         have hxd4 := hxd3.below hbd4
         have hyd4 := hyd3.below hbd4
         have hzd4 := hzd3.below hbd4
         have hfd4 := hfd3.below hbd4
         have hWd4 := bstep hWd3 hbd4)
      | (go_at_call 7
         with_reducible refine (works_any _).mono ?_
         rintro e wd5 ⟨rfl, hbd5⟩
         have hxd5 := hxd4.below hbd5
         have hyd5 := hyd4.below hbd5
         have hzd5 := hzd4.below hbd5
         have hfd5 := hfd4.below hbd5
         have hWd5 := bstep hWd4 hbd5))
    clear hbd5 hWd4 hfd4 hzd4 hyd4 hxd4 hbd4 rq1d3 hWd3 hfd3 hzd3 hyd3 hxd3 hnd3 rq2d3 hbd3 hWd2 hfd2 hzd2 hyd2 hxd2 hnd2 rq1d2 hbd2 hWd1 hfd1 hzd1 hyd1 hxd1 hbd1 hWd hfd hzd hyd hxd
    go_wp2_with fail
    go_ret
    exact ⟨rfl, hWd5⟩

set_option maxRecDepth 100000 in
set_option maxHeartbeats 1000000 in
theorem natLaws_large (A B C : Option Addr) (n m k c c' c'' : Nat) (w : World) (h : 30 < n ∨ 30 < m ∨ 30 < k) :
    Calls Try.prog 5 #[.slice A n c, .slice B m c', .slice C k c''] w fun e w' => e = .returned (.bool true) ∧ Below w.heap.size w w' := by
  by_cases h1 : 30 < n
  · clear h
    go_enter Try.func5, Try.ntmps5
    go_wp2_with (first | (go_at_call 7; refine (works_any _).mono ?_; rintro e w1 ⟨rfl, hb1⟩))
    go_ret
    exact ⟨rfl, hb1⟩
  by_cases h2 : 30 < m
  · clear h
    go_enter Try.func5, Try.ntmps5
    go_wp2_with (first | (go_at_call 7; refine (works_any _).mono ?_; rintro e w1 ⟨rfl, hb1⟩))
    go_ret
    exact ⟨rfl, hb1⟩
  · have h3 : 30 < k := by omega
    clear h
    go_enter Try.func5, Try.ntmps5
    go_wp2_with (first | (go_at_call 7; refine (works_any _).mono ?_; rintro e w1 ⟨rfl, hb1⟩))
    go_ret
    exact ⟨rfl, hb1⟩
end Go.Proofs.Ytamknndngjoncaa
