/- The laws of layer 5: works, over the interface. -/
import Derived.Test.YthlpldmodflmjaaDoorTokN
namespace Go.Proofs.YthlpldmodflmjaaDoor
open Go.RowKit

/-- Cells that are kept while nothing old is turned. -/
structure CL (w : World) (l : List (Addr × Value)) (W : World) : Prop where
  cells : ∀ q ∈ l, W.cell? q.1 = some q.2
  below : Below w.heap.size w W
theorem CL.step {w W W' : World} {l : List (Addr × Value)} (h : CL w l W) (hb : Below W.heap.size W W') : CL w l W' := ⟨fun q hq => cst5 hb (h.cells q hq), h.below.trans (hb.mono h.below.size)⟩
theorem CL.cons {w W : World} {l : List (Addr × Value)} (h : CL w l W) {p : Addr} {u : Value} (hc : W.cell? p = some u) : CL w ((p, u) :: l) W := ⟨fun q hq => by
  rcases List.mem_cons.1 hq with rfl | hq
  · exact hc
  · exact h.cells q hq, h.below⟩
theorem CL.new {w W : World} {l : List (Addr × Value)} (h : CL w l W) (a b c : Value) (T : TypeId) : CL w ((⟨W.heap.size, 0, none⟩, a) :: (⟨W.heap.size, 1, none⟩, b) :: (⟨W.heap.size, 2, none⟩, c) :: l) (W.alloc (.cells #[a, b, c] T)) := by
  have hb := (Box.new W [a, b, c] T).three
  exact (((h.step (bnew5 W (.cells #[a, b, c] T))).cons hb.2.2).cons hb.2.1).cons hb.1
theorem CL.head {w W : World} {l : List (Addr × Value)} {p : Addr} {u : Value} (h : CL w ((p, u) :: l) W) : W.cell? p = some u := h.cells _ (List.mem_cons_self ..)
theorem CL.tail {w W : World} {l : List (Addr × Value)} {q : Addr × Value} (h : CL w (q :: l) W) : CL w l W := ⟨fun r hr => h.cells r (List.mem_cons_of_mem _ hr), h.below⟩
theorem oneA {W : World} {A : Option Addr} (h : RowT W A 7 [⟨0, [120], 0, 1, 1⟩, ⟨2, [61], 0, 1, 2⟩, ⟨1, [49], 1, 1, 3⟩, ⟨2, [60, 60], 0, 1, 4⟩, ⟨0, [121], 0, 1, 6⟩, ⟨2, [59], 0, 1, 7⟩, ⟨3, [], 0, 1, 8⟩]) : ∃ ad, A = some ad ∧ W.cell? (ad.add 16) = some (.string ⟨#[60, 60]⟩) ∧ W.cell? (ad.add 12) = some (.int .i64 1) ∧ W.cell? (ad.add 30) = some (.int .i64 3) := by
  obtain ⟨ad, t, e, ht, _, h3, _⟩ := h.at_ (i := 3) (by omega)
  obtain ⟨ad', t', e', ht', _, _, h2, _⟩ := h.at_ (i := 2) (by omega)
  obtain ⟨ad'', t'', e'', ht'', h6, _⟩ := h.at_ (i := 6) (by omega)
  simp at ht ht' ht''
  subst e
  simp at e' e''
  subst e' e'' ht ht' ht''
  exact ⟨ad, rfl, h3, h2, h6⟩
theorem oneB {W : World} {A : Option Addr} (h : RowT W A 2 [⟨0, [97], 0, 1, 1⟩, ⟨3, [], 0, 1, 6⟩]) : ∃ ad, A = some ad ∧ W.cell? (ad.add 8) = some (.int .i64 1) ∧ W.cell? (ad.add 9) = some (.int .i64 6) := by
  obtain ⟨ad, t, e, ht, _, _, _, h3, h4⟩ := h.at_ (i := 1) (by omega)
  simp at ht
  subst ht
  exact ⟨ad, e, h3, h4⟩
theorem oneC {W : World} {A : Option Addr} (h : RowT W A 3 [⟨1, [49, 50], 12, 1, 1⟩, ⟨0, [97, 98], 0, 1, 3⟩, ⟨3, [], 0, 1, 5⟩]) : ∃ ad, A = some ad ∧ W.cell? (ad.add 6) = some (.string ⟨#[97, 98]⟩) := by
  obtain ⟨ad, t, e, ht, _, h3, _⟩ := h.at_ (i := 1) (by omega)
  simp at ht
  subst ht
  exact ⟨ad, e, h3⟩

set_option maxHeartbeats 4000000 in
set_option maxRecDepth 100000 in
theorem works_tok (hAl : TokAllC) (w : World) (hL : LaidR w) : Calls Tryd.prog 7 #[] w fun e w' => e = .returned (.bool true) ∧ Below w.heap.size w w' := by
  have q1 := fun w hL => hAl ⟨#[120, 61, 49, 60, 60, 121, 59]⟩ w hL (by decide)
  have q2 := fun w hL => hAl ⟨#[97, 32, 35, 32, 98]⟩ w hL (by decide)
  have q3 := fun w hL => hAl ⟨#[49, 50, 97, 98]⟩ w hL (by decide)
  have q4 := fun w hL => hAl ⟨#[48, 48, 55]⟩ w hL (by decide)
  have q5 := fun w hL => hAl ⟨#[120, 64, 121]⟩ w hL (by decide)
  rw [show allV (⟨#[120, 61, 49, 60, 60, 121, 59]⟩ : ByteArray).data.toList = _ from allA] at q1
  rw [show allV (⟨#[97, 32, 35, 32, 98]⟩ : ByteArray).data.toList = _ from allB] at q2
  rw [show allV (⟨#[49, 50, 97, 98]⟩ : ByteArray).data.toList = _ from allC] at q3
  rw [show allV (⟨#[48, 48, 55]⟩ : ByteArray).data.toList = _ from allD] at q4
  rw [show allV (⟨#[120, 64, 121]⟩ : ByteArray).data.toList = _ from allE] at q5
  have hL0 := Lib.hid hL
  clear hAl hL
  go_enter Tryd.func7, Tryd.ntmps7
  go_wp2_with fail
  refine (q1 _ hL0.out).mono ?_
  rintro e w1 ⟨v1, rfl, A1, n1, rfl, hr1, -, hb1⟩
  obtain ⟨ad1, rfl, hA1⟩ := oneA hr1
  have T1 := Lib.hid ((((((CL.mk (l := []) (fun q hq => absurd hq (by simp)) hb1 : CL w [] w1)).cons hA1.1).cons hA1.2.1).cons hA1.2.2).new (.int .i64 0) (.int .i64 0) (.int .i64 0) 36)
  clear q1 hr1 hb1 hA1
  go_wp2_with fail
  generalize w1.alloc (.cells #[.int .i64 0, .int .i64 0, .int .i64 0] 36) = W1 at *
  generalize w1.heap.size = g1 at *
  have S1 := T1
  clear T1
  refine (q2 _ (hL0.out.below S1.out.below)).mono ?_
  rintro e w2 ⟨v2, rfl, A2, n2, rfl, hr2, -, hb2⟩
  obtain ⟨ad2, rfl, hA2⟩ := oneB hr2
  have T2 := Lib.hid ((((S1.out.step hb2).cons hA2.1).cons hA2.2).new (.int .i64 0) (.int .i64 0) (.int .i64 0) 36)
  clear q2 hr2 hb2 hA2 S1
  go_wp2_with fail
  generalize w2.alloc (.cells #[.int .i64 0, .int .i64 0, .int .i64 0] 36) = W2 at *
  generalize w2.heap.size = g2 at *
  have S2 := T2
  clear T2
  refine (q3 _ (hL0.out.below S2.out.below)).mono ?_
  rintro e w3 ⟨v3, rfl, A3, n3, rfl, hr3, -, hb3⟩
  obtain ⟨ad3, rfl, hA3⟩ := oneC hr3
  have T3 := Lib.hid (((S2.out.step hb3).cons hA3).new (.int .i64 0) (.int .i64 0) (.int .i64 0) 36)
  clear q3 hr3 hb3 hA3 S2
  go_wp2_with fail
  generalize w3.alloc (.cells #[.int .i64 0, .int .i64 0, .int .i64 0] 36) = W3 at *
  generalize w3.heap.size = g3 at *
  have S3 := T3
  clear T3
  refine (q4 _ (hL0.out.below S3.out.below)).mono ?_
  rintro e w4 ⟨v4, rfl, A4, n4, rfl, hr4, -, hb4⟩
  have T4 := Lib.hid ((S3.out.step hb4).new (.int .i64 1) (.int .i64 1) (.int .i64 51) 36)
  clear q4 hr4 hb4 S3
  go_wp2_with fail
  generalize w4.alloc (.cells #[.int .i64 1, .int .i64 1, .int .i64 51] 36) = W4 at *
  generalize w4.heap.size = g4 at *
  have S4 := T4
  clear T4
  refine (q5 _ (hL0.out.below S4.out.below)).mono ?_
  rintro e w5 ⟨v5, rfl, A5, n5, rfl, hr5, -, hb5⟩
  have S5 := S4.out.step hb5
  have s0 := S5.head
  have s1 := S5.tail.head
  have s2 := S5.tail.tail.head
  have s3 := S5.tail.tail.tail.tail.tail.head
  have s4 := S5.tail.tail.tail.tail.tail.tail.head
  have s5 := S5.tail.tail.tail.tail.tail.tail.tail.tail.tail.head
  have s6 := S5.tail.tail.tail.tail.tail.tail.tail.tail.tail.tail.head
  have s7 := S5.tail.tail.tail.tail.tail.tail.tail.tail.tail.tail.tail.head
  have s8 := S5.tail.tail.tail.tail.tail.tail.tail.tail.tail.tail.tail.tail.tail.tail.head
  have s9 := S5.tail.tail.tail.tail.tail.tail.tail.tail.tail.tail.tail.tail.tail.tail.tail.head
  have s10 := S5.tail.tail.tail.tail.tail.tail.tail.tail.tail.tail.tail.tail.tail.tail.tail.tail.head
  have s11 := S5.tail.tail.tail.tail.tail.tail.tail.tail.tail.tail.tail.tail.tail.tail.tail.tail.tail.head
  have hbl := Lib.hid S5.below
  have l4 : g4 < w5.heap.size := World.block_lt_of_cell? _ _ s0
  have l3 : g3 < w5.heap.size := World.block_lt_of_cell? _ _ s3
  have l2 : g2 < w5.heap.size := World.block_lt_of_cell? _ _ s5
  have l1 : g1 < w5.heap.size := World.block_lt_of_cell? _ _ s8
  have l5 : ad1.block < w5.heap.size := World.block_lt_of_cell? _ (ad1.add 30) s9
  have l6 : ad2.block < w5.heap.size := World.block_lt_of_cell? _ (ad2.add 9) s6
  have l7 : ad3.block < w5.heap.size := World.block_lt_of_cell? _ (ad3.add 6) s4
  have t4 : w5.cell? ⟨ad3.block, ad3.off + 6, none⟩ = _ := s4
  have t6 : w5.cell? ⟨ad2.block, ad2.off + 9, none⟩ = _ := s6
  have t7 : w5.cell? ⟨ad2.block, ad2.off + 8, none⟩ = _ := s7
  have t9 : w5.cell? ⟨ad1.block, ad1.off + 30, none⟩ = _ := s9
  have t10 : w5.cell? ⟨ad1.block, ad1.off + 12, none⟩ = _ := s10
  have t11 : w5.cell? ⟨ad1.block, ad1.off + 16, none⟩ = _ := s11
  have t9' : (w5.alloc (.cells #[.int .i64 1, .int .i64 2, .int .i64 50] 36)).cell? (ad1.add 30) = _ := (World.cell?_alloc_some w5 _ _ (by rw [s9]; rfl)).trans s9
  clear q5 hr5 hb5 S4 S5 s4 s6 s7 s9 s10 s11
  go_wp2_with fail
  go_ret
  exact ⟨by first | rfl | simp, bth5 hbl.out (bnew5 w5 _)⟩
end Go.Proofs.YthlpldmodflmjaaDoor
