/- The contract of layer 5's cut. -/
import Derived.Test.YthlpldmodflmjaaDoorTokX
import Derived.Test.YthlpldmodflmjaaDoorTokM
import Derived.Deep.LoopGhost
namespace Go.Proofs.YthlpldmodflmjaaDoor
open Go.RowKit

theorem Box.five5 {W : World} {g : Nat} {a b c d e : Value} (h : Box W g [a, b, c, d, e]) : W.cell? ⟨g, 0, none⟩ = some a ∧ W.cell? ⟨g, 1, none⟩ = some b ∧ W.cell? ⟨g, 2, none⟩ = some c ∧ W.cell? ⟨g, 3, none⟩ = some d ∧ W.cell? ⟨g, 4, none⟩ = some e := ⟨(h 0 _ rfl).1, (h 1 _ rfl).1, (h 2 _ rfl).1, (h 3 _ rfl).1, (h 4 _ rfl).1⟩
theorem Box.frz5 {W : World} {g : Nat} {a b c d e : Value} (h : Box W g [a, b, c, d, e]) : W.frozen? ⟨g, 0, none⟩ = false ∧ W.frozen? ⟨g, 1, none⟩ = false ∧ W.frozen? ⟨g, 2, none⟩ = false ∧ W.frozen? ⟨g, 3, none⟩ = false ∧ W.frozen? ⟨g, 4, none⟩ = false := ⟨(h 0 _ rfl).2, (h 1 _ rfl).2, (h 2 _ rfl).2, (h 3 _ rfl).2, (h 4 _ rfl).2⟩
/-- cut's piece, in a box of its own, and what the closures read. -/
structure KY (w : World) (s : ByteArray) (q : Nat) (g4 g5 G : Nat) (vs : List Value) (W : World) : Prop where
  r : Box W g4 [.int .i64 0, .int .i64 0, .int .i64 0, .int .i64 0, .int .i64 0]
  p : Box W g5 vs
  c0 : W.cell? ⟨G, 0, none⟩ = some (.string s)
  c1 : W.cell? ⟨G + 1, 0, none⟩ = some (.int .i64 q)
  below : Below w.heap.size w W
  l4 : w.heap.size ≤ g4
  l5 : g4 < g5
  lG : g5 < G
theorem KY.step {w W W' : World} {s : ByteArray} {q g4 g5 G : Nat} {vs : List Value} (h : KY w s q g4 g5 G vs W) (hb : Below W.heap.size W W') : KY w s q g4 g5 G vs W' :=
  ⟨h.r.step hb, h.p.step hb, cst5 hb h.c0, cst5 hb h.c1, bth5 h.below hb, h.l4, h.l5, h.lG⟩
theorem KY.set {w W : World} {s : ByteArray} {q g4 g5 G : Nat} {vs : List Value} (h : KY w s q g4 g5 G vs W) (j : Nat) (u : Value) : KY w s q g4 g5 G (vs.set j u) (W.setCell ⟨g5, j, none⟩ u) := by
  have h4 := h.l4
  have h5 := h.l5
  have hG := h.lG
  refine ⟨h.r.far (by show g5 ≠ g4; omega) u, h.p.set j u, ?_, ?_, h.below.setCell (by show w.heap.size ≤ g5; omega) u, h4, h5, hG⟩
  · rw [World.cell?_setCell_other _ _ _ _ (fun e => by injection e; omega)]; exact h.c0
  · rw [World.cell?_setCell_other _ _ _ _ (fun e => by injection e; omega)]; exact h.c1
/-- A piece's value. -/
def pieceA (L : List UInt8) (q : Nat) : Value := .agg #[.int .i64 (pieceQ L q).1, .int .i64 (q : Nat), .int .i64 ((pieceQ L q).2.1 : Nat), .int .i64 (pieceQ L q).2.2.1, .int .i64 (pieceQ L q).2.2.2]
theorem run_int {l : List UInt8} {c : UInt8} {n : Nat} (hc : l[0]? = some c) (hd : dgt c = true) (hn : n ≤ l.length) (hb : ∀ m, m < n → belB l 1 m = true) (hs : n = l.length ∨ belB l 1 n = false) : isIntB (l.take n) = true := by
  have h0 : 0 < l.length := (List.getElem?_eq_some_iff.1 hc).1
  have hn0 : n ≠ 0 := by
    intro h
    subst h
    rcases hs with h | h
    · omega
    · unfold belB at h
      rw [if_neg (by omega), hc] at h
      simp [hd] at h
  rw [isIntB_iff]
  refine ⟨fun e => ?_, fun i hi d hid => ?_⟩
  · have := congrArg List.length e
    rw [List.length_take, List.length_nil] at this
    omega
  · rw [List.getElem?_take] at hid
    split at hid
    · have := hb i (by omega)
      unfold belB at this
      rw [if_neg (by omega), hid] at this
      simpa using this
    · cases hid

set_option maxHeartbeats 4000000 in
theorem tokCutEnd (s : ByteArray) (p q : Nat) (hp : p ≤ s.size) (hs : s.size ≤ 100000) (hq : q = p + skipL (s.data.toList.drop p) false) (hend : q = s.size) (w : World) :
    Calls Tryd.prog 32 #[.string s, .int .i64 p] w fun e w' => e = .returned (pieceA s.data.toList q) ∧ Below w.heap.size w w' := by
  have hl := size_len_ s
  have hqle : q ≤ s.size := by rw [hq, ← hl]; exact skip_le _ _ (by omega)
  have q1 := fun w => tokSkip s p hp hs w
  rw [← hq] at q1
  clear hq
  have hend' : (q : Int) = s.size := by omega
  have hV : Hid (pieceA s.data.toList q = .agg #[.int .i64 3, .int .i64 s.size, .int .i64 s.size, .int .i64 0, .int .i64 0]) := by
    show pieceA s.data.toList q = _
    unfold pieceA
    rw [pieceQ_end (by omega)]
    simp [hend']
  have hb0 := Lib.hid (bth5 (bnew5 w (.cells #[.int .i64 3, .int .i64 s.size, .int .i64 s.size, .int .i64 0, .int .i64 0] 77)) (bnew5 _ (.cells #[.int .i64 3, .int .i64 s.size, .int .i64 s.size, .int .i64 0, .int .i64 0] 77)))
  clear hend hqle hl hs
  go_enter Tryd.func32, Tryd.ntmps32
  go_wp2_with fail
  refine (q1 _).mono ?_
  rintro e w1 ⟨rfl, rfl⟩
  clear q1
  go_wp2_with fail
  refine bodyPost_ret (v := .agg #[.int .i64 3, .int .i64 s.size, .int .i64 s.size, .int .i64 0, .int .i64 0]) (by simp [results, Tryd.results32, go_sem]) rfl ?_
  exact ⟨by rw [hV.out], hb0.out⟩

set_option maxHeartbeats 4000000 in
theorem tokCutK0 (s : ByteArray) (p q : Nat) (hp : p ≤ s.size) (hs : s.size ≤ 100000) (hq : q = p + skipL (s.data.toList.drop p) false) (hlt : q < s.size) (c : UInt8) (hc : s.data.toList[q]? = some c) (hK : ruleK c = 0) (w : World) (hL : LaidR w) :
    Calls Tryd.prog 32 #[.string s, .int .i64 p] w fun e w' => e = .returned (pieceA s.data.toList q) ∧ Below w.heap.size w w' := by
  have hl := size_len_ s
  have hqle : q ≤ s.size := by rw [hq, ← hl]; exact skip_le _ _ (by omega)
  have q1 := fun w => tokSkip s p hp hs w
  rw [← hq] at q1
  clear hq
  have hend' : ¬ (q : Int) = s.size := by omega
  have q2 := fun w => tokRule s q hlt c hc w
  rw [hK] at q2
  simp only [ruleC, if_true] at q2
  have HC := Lib.hid hc
  have hL0 := Lib.hid hL
  clear hc hL
  have hr0 := (Box.new w [.int .i64 0, .int .i64 0, .int .i64 0, .int .i64 0, .int .i64 0] 77).step (bnew5 _ (.cells #[.int .i64 3, .int .i64 q, .int .i64 q, .int .i64 0, .int .i64 0] 77))
  have hr1 := Box.new (w.alloc (.cells #[.int .i64 0, .int .i64 0, .int .i64 0, .int .i64 0, .int .i64 0] 77)) [.int .i64 3, .int .i64 q, .int .i64 q, .int .i64 0, .int .i64 0] 77
  have hb0 := bth5 (bnew5 w (.cells #[.int .i64 0, .int .i64 0, .int .i64 0, .int .i64 0, .int .i64 0] 77)) (bnew5 _ (.cells #[.int .i64 3, .int .i64 q, .int .i64 q, .int .i64 0, .int .i64 0] 77))
  have hsz : ((w.alloc (.cells #[.int .i64 0, .int .i64 0, .int .i64 0, .int .i64 0, .int .i64 0] 77)).alloc (.cells #[.int .i64 3, .int .i64 q, .int .i64 q, .int .i64 0, .int .i64 0] 77)).heap.size = w.heap.size + 2 := by simp
  rw [show (w.alloc (.cells #[.int .i64 0, .int .i64 0, .int .i64 0, .int .i64 0, .int .i64 0] 77)).heap.size = w.heap.size + 1 by simp] at hr1
  have hH := Lib.hid (And.intro hr0 (And.intro hr1 (And.intro hb0 hsz)))
  clear hr0 hr1 hb0 hsz
  go_enter Tryd.func32, Tryd.ntmps32
  go_wp2_with fail
  refine (q1 _).mono ?_
  rintro e w1 ⟨rfl, rfl⟩
  clear q1
  go_wp2_with fail
  refine (q2 _).mono ?_
  clear q2
  generalize (w.alloc (.cells #[.int .i64 0, .int .i64 0, .int .i64 0, .int .i64 0, .int .i64 0] 77)).alloc (.cells #[.int .i64 3, .int .i64 q, .int .i64 q, .int .i64 0, .int .i64 0] 77) = W1 at hH ⊢
  rw [hH.out.2.2.2]
  rintro e w2 ⟨rfl, hc0, hc1, hb2⟩
  have hb2 : Below W1.heap.size W1 w2 := by rw [hH.out.2.2.2]; exact hb2
  have hst0 : Hid (KY w s q w.heap.size (w.heap.size + 1) (w.heap.size + 2) [.int .i64 3, .int .i64 q, .int .i64 q, .int .i64 0, .int .i64 0] w2) := ⟨hH.out.1.step hb2, hH.out.2.1.step hb2, hc0, hc1, bth5 hH.out.2.2.1 hb2, by omega, by omega, by omega⟩
  clear hH hc0 hc1 hb2
  obtain ⟨g4, hg4⟩ : ∃ g4, g4 = w.heap.size := ⟨_, rfl⟩
  obtain ⟨g5, hg5⟩ : ∃ g5, g5 = w.heap.size + 1 := ⟨_, rfl⟩
  obtain ⟨G, hG⟩ : ∃ G, G = w.heap.size + 2 := ⟨_, rfl⟩
  rw [← hG, ← hg5, ← hg4] at hst0 ⊢
  clear hg5 hG
  try clear hg4
  go_wp2_with fail
  go_loopg [] (s.size - q) (fun g W => ∃ j, q ≤ j ∧ j + g = s.size ∧ Hid (∀ m, m < j - q → belB (s.data.toList.drop q) 0 m = true) ∧ Hid (KY w s q g4 g5 G [.int .i64 3, .int .i64 q, .int .i64 j, .int .i64 0, .int .i64 0] W))
  case atStart => exact ⟨q, Nat.le_refl _, by omega, fun m hm => absurd hm (by omega), hst0⟩
  case round =>
    obtain ⟨j, hqj, hjg, hbl, hk⟩ := hrel
    clear hst0
    obtain ⟨c0, c1, c2, c3, c4⟩ := hk.out.p.five5
    obtain ⟨z0, z1, z2, z3, z4⟩ := hk.out.p.frz5
    by_cases hlt : j < s.size
    · have hlt' : (j : Int) < s.size := by omega
      obtain ⟨d, hd⟩ : ∃ d, s.data.toList[j]? = some d := ⟨_, List.getElem?_eq_getElem (by omega)⟩
      have qb := belWord s j G hlt d hd wr hk.out.c0
      have hbv : belB (s.data.toList.drop q) 0 (j - q) = (ltr d || dgt d) := by
        unfold belB
        rw [if_neg (by omega), List.getElem?_drop, show q + (j - q) = j by omega, hd]; rfl
      rw [← hbv] at qb
      have HBV := Lib.hid hbv
      clear hbv hd
      cases hbb : belB (s.data.toList.drop q) 0 (j - q) with
      | true =>
        rw [hbb] at qb
        have hbl2 : Hid (∀ m, m < j + 1 - q → belB (s.data.toList.drop q) 0 m = true) := fun m hm => by
          by_cases e : m = j - q
          · rw [e]; exact hbb
          · exact hbl.out m (by omega)
        have hk2 := Lib.hid (hk.out.set 2 (.int .i64 ((j + 1 : Nat) : Int)))
        have hiu : IntKind.i64.wrap ((j : Int) + 1) = ((j + 1 : Nat) : Int) := (IntWalk.i64_in _ (by omega)).trans (by omega)
        obtain ⟨g, rfl⟩ : ∃ g', gk = g' + 1 := ⟨gk - 1, by omega⟩
        clear hbl hbb HBV
        go_wp2_with fail
        refine qb.mono ?_
        rintro e w3 ⟨rfl, hw3⟩
        have hw3 := hw3.symm
        subst hw3
        clear qb
        go_wp2_with fail
        go_roundg g
        case measure => omega
        case rel => exact ⟨j + 1, by omega, by omega, hbl2, hk2⟩
      | false =>
        rw [hbb] at qb
        clear HBV
        go_wp2_with fail
        refine qb.mono ?_
        rintro e w3 ⟨rfl, hw3⟩
        have hw3 := hw3.symm
        subst hw3
        clear qb c0 c1 c2 c3 c4 z0 z1 z2 z3 z4
        have hx : (s.extract q j).data.toList = (s.data.toList.drop q).take (j - q) := by
          rw [extract_span5]
          unfold span
          rw [List.drop_take]
        have hstop : q + (j - q) = s.data.toList.length ∨ belB (s.data.toList.drop q) 0 (j - q) = false := .inr hbb
        have hrun := pieceQ_run HC.out (n := j - q) (by omega) (by rw [hK]; exact hbl.out) (by rw [hK]; exact hstop)
        have hIx : (0 : Nat) = 1 → isIntB (s.extract q j).data.toList = true := fun h1 => by
          omega
        have q3 := fun w hL => tokCount 0 (by omega) (s.extract q j) hIx (by simp; omega) w hL
        rw [hK] at hrun
        rw [hx] at q3
        obtain ⟨cn, ce, hce⟩ : ∃ cn ce, countV 0 ((s.data.toList.drop q).take (j - q)) = (cn, ce) := ⟨_, _, rfl⟩
        rw [hce] at q3 hrun
        simp only at q3 hrun
        have hV : Hid (pieceA s.data.toList q = .agg #[.int .i64 0, .int .i64 q, .int .i64 j, .int .i64 cn, .int .i64 ce]) := by
          show pieceA s.data.toList q = _
          unfold pieceA
          rw [hrun, show q + (j - q) = j by omega]
          rfl
        have hk2 := Lib.hid (hk.out.set 0 (.int .i64 0))
        have hL2 : Hid (LaidR (wr.setCell ⟨g5, 0, none⟩ (.int .i64 0))) := hL0.out.below hk2.out.below
        obtain ⟨c0, c1, c2, c3, c4⟩ := hk.out.p.five5
        obtain ⟨z0, z1, z2, z3, z4⟩ := hk.out.p.frz5
        have v1 : (q : Int) ≤ j := by omega
        have v2 : (j : Int) ≤ s.size := by omega
        have v3 : (0 : Int) ≤ q := by omega
        have v4 : (0 : Int) ≤ j := by omega
        clear hx hrun hIx hstop hce hbl
        generalize hxs : s.extract q j = xs at *
        go_wp2_with fail
        refine (q3 _ hL2.out).mono ?_
        rintro e w3 ⟨rfl, hb3⟩
        have hk3 := hk2.out.step hb3
        have hs3 := (hk3.set 3 (.int .i64 cn)).set 4 (.int .i64 ce)
        obtain ⟨c0, c1, c2, c3, c4⟩ := hk3.p.five5
        obtain ⟨z0, z1, z2, z3, z4⟩ := hk3.p.frz5
        obtain ⟨r0, r1, r2, r3, r4⟩ := hk3.r.five5
        obtain ⟨y0, y1, y2, y3, y4⟩ := hk3.r.frz5
        have n1 : ¬ g4 = g5 := by have := hk3.l5; omega
        have hbf := Lib.hid (hs3.below)
        have l4 := Lib.hid hk3.l4
        clear hk hk2 hk3 hs3 hb3 q3 hL2
        go_wp2_with fail
        refine bodyPost_ret (v := .agg #[.int .i64 0, .int .i64 q, .int .i64 j, .int .i64 cn, .int .i64 ce]) (by simp [results, Tryd.results32, go_sem, r0, r1, r2, r3, r4]) rfl ?_
        exact ⟨by rw [hV.out], ((((hbf.out.setCell l4.out _).setCell l4.out _).setCell l4.out _).setCell l4.out _).setCell l4.out _⟩
    · have hj : j = s.size := by omega
      have hlt' : ¬ (j : Int) < s.size := by omega
      have hst9 := Lib.hid (show q + (j - q) = s.data.toList.length by omega)
      have hjle : j ≤ s.size := by omega
      clear c0 c1 c2 c3 c4 z0 z1 z2 z3 z4 hj hjg hlt
      have hx : (s.extract q j).data.toList = (s.data.toList.drop q).take (j - q) := by
        rw [extract_span5]
        unfold span
        rw [List.drop_take]
      have hstop : q + (j - q) = s.data.toList.length ∨ belB (s.data.toList.drop q) 0 (j - q) = false := .inl hst9.out
      have hrun := pieceQ_run HC.out (n := j - q) (by omega) (by rw [hK]; exact hbl.out) (by rw [hK]; exact hstop)
      have hIx : (0 : Nat) = 1 → isIntB (s.extract q j).data.toList = true := fun h1 => by
        omega
      have q3 := fun w hL => tokCount 0 (by omega) (s.extract q j) hIx (by simp; omega) w hL
      rw [hK] at hrun
      rw [hx] at q3
      obtain ⟨cn, ce, hce⟩ : ∃ cn ce, countV 0 ((s.data.toList.drop q).take (j - q)) = (cn, ce) := ⟨_, _, rfl⟩
      rw [hce] at q3 hrun
      simp only at q3 hrun
      have hV : Hid (pieceA s.data.toList q = .agg #[.int .i64 0, .int .i64 q, .int .i64 j, .int .i64 cn, .int .i64 ce]) := by
        show pieceA s.data.toList q = _
        unfold pieceA
        rw [hrun, show q + (j - q) = j by omega]
        rfl
      have hk2 := Lib.hid (hk.out.set 0 (.int .i64 0))
      have hL2 : Hid (LaidR (wr.setCell ⟨g5, 0, none⟩ (.int .i64 0))) := hL0.out.below hk2.out.below
      obtain ⟨c0, c1, c2, c3, c4⟩ := hk.out.p.five5
      obtain ⟨z0, z1, z2, z3, z4⟩ := hk.out.p.frz5
      have v1 : (q : Int) ≤ j := by omega
      have v2 : (j : Int) ≤ s.size := by omega
      have v3 : (0 : Int) ≤ q := by omega
      have v4 : (0 : Int) ≤ j := by omega
      clear hx hrun hIx hstop hce hbl
      generalize hxs : s.extract q j = xs at *
      go_wp2_with fail
      refine (q3 _ hL2.out).mono ?_
      rintro e w3 ⟨rfl, hb3⟩
      have hk3 := hk2.out.step hb3
      have hs3 := (hk3.set 3 (.int .i64 cn)).set 4 (.int .i64 ce)
      obtain ⟨c0, c1, c2, c3, c4⟩ := hk3.p.five5
      obtain ⟨z0, z1, z2, z3, z4⟩ := hk3.p.frz5
      obtain ⟨r0, r1, r2, r3, r4⟩ := hk3.r.five5
      obtain ⟨y0, y1, y2, y3, y4⟩ := hk3.r.frz5
      have n1 : ¬ g4 = g5 := by have := hk3.l5; omega
      have hbf := Lib.hid (hs3.below)
      have l4 := Lib.hid hk3.l4
      clear hk hk2 hk3 hs3 hb3 q3 hL2
      go_wp2_with fail
      refine bodyPost_ret (v := .agg #[.int .i64 0, .int .i64 q, .int .i64 j, .int .i64 cn, .int .i64 ce]) (by simp [results, Tryd.results32, go_sem, r0, r1, r2, r3, r4]) rfl ?_
      exact ⟨by rw [hV.out], ((((hbf.out.setCell l4.out _).setCell l4.out _).setCell l4.out _).setCell l4.out _).setCell l4.out _⟩
set_option maxHeartbeats 4000000 in
theorem tokCutK1 (s : ByteArray) (p q : Nat) (hp : p ≤ s.size) (hs : s.size ≤ 100000) (hq : q = p + skipL (s.data.toList.drop p) false) (hlt : q < s.size) (c : UInt8) (hc : s.data.toList[q]? = some c) (hK : ruleK c = 1) (w : World) (hL : LaidR w) :
    Calls Tryd.prog 32 #[.string s, .int .i64 p] w fun e w' => e = .returned (pieceA s.data.toList q) ∧ Below w.heap.size w w' := by
  have hl := size_len_ s
  have hqle : q ≤ s.size := by rw [hq, ← hl]; exact skip_le _ _ (by omega)
  have q1 := fun w => tokSkip s p hp hs w
  rw [← hq] at q1
  clear hq
  have hdg : dgt c = true := by
    unfold ruleK at hK
    by_cases h0 : ltr c = true
    · rw [if_pos h0] at hK; omega
    · rw [if_neg h0] at hK
      by_cases h1 : dgt c = true
      · exact h1
      · rw [if_neg h1] at hK; omega
  have hend' : ¬ (q : Int) = s.size := by omega
  have q2 := fun w => tokRule s q hlt c hc w
  rw [hK] at q2
  simp only [ruleC, if_true, if_false, show ¬ (1 : Nat) = 0 by omega] at q2
  have HC := Lib.hid hc
  have hL0 := Lib.hid hL
  clear hc hL
  have hr0 := (Box.new w [.int .i64 0, .int .i64 0, .int .i64 0, .int .i64 0, .int .i64 0] 77).step (bnew5 _ (.cells #[.int .i64 3, .int .i64 q, .int .i64 q, .int .i64 0, .int .i64 0] 77))
  have hr1 := Box.new (w.alloc (.cells #[.int .i64 0, .int .i64 0, .int .i64 0, .int .i64 0, .int .i64 0] 77)) [.int .i64 3, .int .i64 q, .int .i64 q, .int .i64 0, .int .i64 0] 77
  have hb0 := bth5 (bnew5 w (.cells #[.int .i64 0, .int .i64 0, .int .i64 0, .int .i64 0, .int .i64 0] 77)) (bnew5 _ (.cells #[.int .i64 3, .int .i64 q, .int .i64 q, .int .i64 0, .int .i64 0] 77))
  have hsz : ((w.alloc (.cells #[.int .i64 0, .int .i64 0, .int .i64 0, .int .i64 0, .int .i64 0] 77)).alloc (.cells #[.int .i64 3, .int .i64 q, .int .i64 q, .int .i64 0, .int .i64 0] 77)).heap.size = w.heap.size + 2 := by simp
  rw [show (w.alloc (.cells #[.int .i64 0, .int .i64 0, .int .i64 0, .int .i64 0, .int .i64 0] 77)).heap.size = w.heap.size + 1 by simp] at hr1
  have hH := Lib.hid (And.intro hr0 (And.intro hr1 (And.intro hb0 hsz)))
  clear hr0 hr1 hb0 hsz
  go_enter Tryd.func32, Tryd.ntmps32
  go_wp2_with fail
  refine (q1 _).mono ?_
  rintro e w1 ⟨rfl, rfl⟩
  clear q1
  go_wp2_with fail
  refine (q2 _).mono ?_
  clear q2
  generalize (w.alloc (.cells #[.int .i64 0, .int .i64 0, .int .i64 0, .int .i64 0, .int .i64 0] 77)).alloc (.cells #[.int .i64 3, .int .i64 q, .int .i64 q, .int .i64 0, .int .i64 0] 77) = W1 at hH ⊢
  rw [hH.out.2.2.2]
  rintro e w2 ⟨rfl, hc0, hc1, hb2⟩
  have hb2 : Below W1.heap.size W1 w2 := by rw [hH.out.2.2.2]; exact hb2
  have hst0 : Hid (KY w s q w.heap.size (w.heap.size + 1) (w.heap.size + 2) [.int .i64 3, .int .i64 q, .int .i64 q, .int .i64 0, .int .i64 0] w2) := ⟨hH.out.1.step hb2, hH.out.2.1.step hb2, hc0, hc1, bth5 hH.out.2.2.1 hb2, by omega, by omega, by omega⟩
  clear hH hc0 hc1 hb2
  obtain ⟨g4, hg4⟩ : ∃ g4, g4 = w.heap.size := ⟨_, rfl⟩
  obtain ⟨g5, hg5⟩ : ∃ g5, g5 = w.heap.size + 1 := ⟨_, rfl⟩
  obtain ⟨G, hG⟩ : ∃ G, G = w.heap.size + 2 := ⟨_, rfl⟩
  rw [← hG, ← hg5, ← hg4] at hst0 ⊢
  clear hg5 hG
  try clear hg4
  go_wp2_with fail
  go_loopg [] (s.size - q) (fun g W => ∃ j, q ≤ j ∧ j + g = s.size ∧ Hid (∀ m, m < j - q → belB (s.data.toList.drop q) 1 m = true) ∧ Hid (KY w s q g4 g5 G [.int .i64 3, .int .i64 q, .int .i64 j, .int .i64 0, .int .i64 0] W))
  case atStart => exact ⟨q, Nat.le_refl _, by omega, fun m hm => absurd hm (by omega), hst0⟩
  case round =>
    obtain ⟨j, hqj, hjg, hbl, hk⟩ := hrel
    clear hst0
    obtain ⟨c0, c1, c2, c3, c4⟩ := hk.out.p.five5
    obtain ⟨z0, z1, z2, z3, z4⟩ := hk.out.p.frz5
    by_cases hlt : j < s.size
    · have hlt' : (j : Int) < s.size := by omega
      obtain ⟨d, hd⟩ : ∃ d, s.data.toList[j]? = some d := ⟨_, List.getElem?_eq_getElem (by omega)⟩
      have qb := belInt s j G hlt d hd wr hk.out.c0
      have hbv : belB (s.data.toList.drop q) 1 (j - q) = (dgt d) := by
        unfold belB
        rw [if_neg (by omega), List.getElem?_drop, show q + (j - q) = j by omega, hd]; rfl
      rw [← hbv] at qb
      have HBV := Lib.hid hbv
      clear hbv hd
      cases hbb : belB (s.data.toList.drop q) 1 (j - q) with
      | true =>
        rw [hbb] at qb
        have hbl2 : Hid (∀ m, m < j + 1 - q → belB (s.data.toList.drop q) 1 m = true) := fun m hm => by
          by_cases e : m = j - q
          · rw [e]; exact hbb
          · exact hbl.out m (by omega)
        have hk2 := Lib.hid (hk.out.set 2 (.int .i64 ((j + 1 : Nat) : Int)))
        have hiu : IntKind.i64.wrap ((j : Int) + 1) = ((j + 1 : Nat) : Int) := (IntWalk.i64_in _ (by omega)).trans (by omega)
        obtain ⟨g, rfl⟩ : ∃ g', gk = g' + 1 := ⟨gk - 1, by omega⟩
        clear hbl hbb HBV
        go_wp2_with fail
        refine qb.mono ?_
        rintro e w3 ⟨rfl, hw3⟩
        have hw3 := hw3.symm
        subst hw3
        clear qb
        go_wp2_with fail
        go_roundg g
        case measure => omega
        case rel => exact ⟨j + 1, by omega, by omega, hbl2, hk2⟩
      | false =>
        rw [hbb] at qb
        clear HBV
        go_wp2_with fail
        refine qb.mono ?_
        rintro e w3 ⟨rfl, hw3⟩
        have hw3 := hw3.symm
        subst hw3
        clear qb c0 c1 c2 c3 c4 z0 z1 z2 z3 z4
        have hx : (s.extract q j).data.toList = (s.data.toList.drop q).take (j - q) := by
          rw [extract_span5]
          unfold span
          rw [List.drop_take]
        have hstop : q + (j - q) = s.data.toList.length ∨ belB (s.data.toList.drop q) 1 (j - q) = false := .inr hbb
        have hrun := pieceQ_run HC.out (n := j - q) (by omega) (by rw [hK]; exact hbl.out) (by rw [hK]; exact hstop)
        have hIx : (1 : Nat) = 1 → isIntB (s.extract q j).data.toList = true := fun h1 => by
          rw [hx]
          exact run_int (c := c) (by rw [List.getElem?_drop]; exact HC.out) hdg (by rw [List.length_drop]; omega) hbl.out (hstop.imp (fun h => by rw [List.length_drop]; omega) id)
        have q3 := fun w hL => tokCount 1 (by omega) (s.extract q j) hIx (by simp; omega) w hL
        rw [hK] at hrun
        rw [hx] at q3
        obtain ⟨cn, ce, hce⟩ : ∃ cn ce, countV 1 ((s.data.toList.drop q).take (j - q)) = (cn, ce) := ⟨_, _, rfl⟩
        rw [hce] at q3 hrun
        simp only at q3 hrun
        have hV : Hid (pieceA s.data.toList q = .agg #[.int .i64 1, .int .i64 q, .int .i64 j, .int .i64 cn, .int .i64 ce]) := by
          show pieceA s.data.toList q = _
          unfold pieceA
          rw [hrun, show q + (j - q) = j by omega]
          rfl
        have hk2 := Lib.hid (hk.out.set 0 (.int .i64 1))
        have hL2 : Hid (LaidR (wr.setCell ⟨g5, 0, none⟩ (.int .i64 1))) := hL0.out.below hk2.out.below
        obtain ⟨c0, c1, c2, c3, c4⟩ := hk.out.p.five5
        obtain ⟨z0, z1, z2, z3, z4⟩ := hk.out.p.frz5
        have v1 : (q : Int) ≤ j := by omega
        have v2 : (j : Int) ≤ s.size := by omega
        have v3 : (0 : Int) ≤ q := by omega
        have v4 : (0 : Int) ≤ j := by omega
        clear hx hrun hIx hstop hce hbl
        generalize hxs : s.extract q j = xs at *
        go_wp2_with fail
        refine (q3 _ hL2.out).mono ?_
        rintro e w3 ⟨rfl, hb3⟩
        have hk3 := hk2.out.step hb3
        have hs3 := (hk3.set 3 (.int .i64 cn)).set 4 (.int .i64 ce)
        obtain ⟨c0, c1, c2, c3, c4⟩ := hk3.p.five5
        obtain ⟨z0, z1, z2, z3, z4⟩ := hk3.p.frz5
        obtain ⟨r0, r1, r2, r3, r4⟩ := hk3.r.five5
        obtain ⟨y0, y1, y2, y3, y4⟩ := hk3.r.frz5
        have n1 : ¬ g4 = g5 := by have := hk3.l5; omega
        have hbf := Lib.hid (hs3.below)
        have l4 := Lib.hid hk3.l4
        clear hk hk2 hk3 hs3 hb3 q3 hL2
        go_wp2_with fail
        refine bodyPost_ret (v := .agg #[.int .i64 1, .int .i64 q, .int .i64 j, .int .i64 cn, .int .i64 ce]) (by simp [results, Tryd.results32, go_sem, r0, r1, r2, r3, r4]) rfl ?_
        exact ⟨by rw [hV.out], ((((hbf.out.setCell l4.out _).setCell l4.out _).setCell l4.out _).setCell l4.out _).setCell l4.out _⟩
    · have hj : j = s.size := by omega
      have hlt' : ¬ (j : Int) < s.size := by omega
      have hst9 := Lib.hid (show q + (j - q) = s.data.toList.length by omega)
      have hjle : j ≤ s.size := by omega
      clear c0 c1 c2 c3 c4 z0 z1 z2 z3 z4 hj hjg hlt
      have hx : (s.extract q j).data.toList = (s.data.toList.drop q).take (j - q) := by
        rw [extract_span5]
        unfold span
        rw [List.drop_take]
      have hstop : q + (j - q) = s.data.toList.length ∨ belB (s.data.toList.drop q) 1 (j - q) = false := .inl hst9.out
      have hrun := pieceQ_run HC.out (n := j - q) (by omega) (by rw [hK]; exact hbl.out) (by rw [hK]; exact hstop)
      have hIx : (1 : Nat) = 1 → isIntB (s.extract q j).data.toList = true := fun h1 => by
        rw [hx]
        exact run_int (c := c) (by rw [List.getElem?_drop]; exact HC.out) hdg (by rw [List.length_drop]; omega) hbl.out (hstop.imp (fun h => by rw [List.length_drop]; omega) id)
      have q3 := fun w hL => tokCount 1 (by omega) (s.extract q j) hIx (by simp; omega) w hL
      rw [hK] at hrun
      rw [hx] at q3
      obtain ⟨cn, ce, hce⟩ : ∃ cn ce, countV 1 ((s.data.toList.drop q).take (j - q)) = (cn, ce) := ⟨_, _, rfl⟩
      rw [hce] at q3 hrun
      simp only at q3 hrun
      have hV : Hid (pieceA s.data.toList q = .agg #[.int .i64 1, .int .i64 q, .int .i64 j, .int .i64 cn, .int .i64 ce]) := by
        show pieceA s.data.toList q = _
        unfold pieceA
        rw [hrun, show q + (j - q) = j by omega]
        rfl
      have hk2 := Lib.hid (hk.out.set 0 (.int .i64 1))
      have hL2 : Hid (LaidR (wr.setCell ⟨g5, 0, none⟩ (.int .i64 1))) := hL0.out.below hk2.out.below
      obtain ⟨c0, c1, c2, c3, c4⟩ := hk.out.p.five5
      obtain ⟨z0, z1, z2, z3, z4⟩ := hk.out.p.frz5
      have v1 : (q : Int) ≤ j := by omega
      have v2 : (j : Int) ≤ s.size := by omega
      have v3 : (0 : Int) ≤ q := by omega
      have v4 : (0 : Int) ≤ j := by omega
      clear hx hrun hIx hstop hce hbl
      generalize hxs : s.extract q j = xs at *
      go_wp2_with fail
      refine (q3 _ hL2.out).mono ?_
      rintro e w3 ⟨rfl, hb3⟩
      have hk3 := hk2.out.step hb3
      have hs3 := (hk3.set 3 (.int .i64 cn)).set 4 (.int .i64 ce)
      obtain ⟨c0, c1, c2, c3, c4⟩ := hk3.p.five5
      obtain ⟨z0, z1, z2, z3, z4⟩ := hk3.p.frz5
      obtain ⟨r0, r1, r2, r3, r4⟩ := hk3.r.five5
      obtain ⟨y0, y1, y2, y3, y4⟩ := hk3.r.frz5
      have n1 : ¬ g4 = g5 := by have := hk3.l5; omega
      have hbf := Lib.hid (hs3.below)
      have l4 := Lib.hid hk3.l4
      clear hk hk2 hk3 hs3 hb3 q3 hL2
      go_wp2_with fail
      refine bodyPost_ret (v := .agg #[.int .i64 1, .int .i64 q, .int .i64 j, .int .i64 cn, .int .i64 ce]) (by simp [results, Tryd.results32, go_sem, r0, r1, r2, r3, r4]) rfl ?_
      exact ⟨by rw [hV.out], ((((hbf.out.setCell l4.out _).setCell l4.out _).setCell l4.out _).setCell l4.out _).setCell l4.out _⟩
set_option maxHeartbeats 4000000 in
theorem tokCutK2 (s : ByteArray) (p q : Nat) (hp : p ≤ s.size) (hs : s.size ≤ 100000) (hq : q = p + skipL (s.data.toList.drop p) false) (hlt : q < s.size) (c : UInt8) (hc : s.data.toList[q]? = some c) (hK : ruleK c = 2) (w : World) (hL : LaidR w) :
    Calls Tryd.prog 32 #[.string s, .int .i64 p] w fun e w' => e = .returned (pieceA s.data.toList q) ∧ Below w.heap.size w w' := by
  have hl := size_len_ s
  have hqle : q ≤ s.size := by rw [hq, ← hl]; exact skip_le _ _ (by omega)
  have q1 := fun w => tokSkip s p hp hs w
  rw [← hq] at q1
  clear hq
  have hend' : ¬ (q : Int) = s.size := by omega
  have q2 := fun w => tokRule s q hlt c hc w
  rw [hK] at q2
  simp only [ruleC, if_false, show ¬ (2 : Nat) = 0 by omega, show ¬ (2 : Nat) = 1 by omega] at q2
  have HC := Lib.hid hc
  have hL0 := Lib.hid hL
  clear hc hL
  have hr0 := (Box.new w [.int .i64 0, .int .i64 0, .int .i64 0, .int .i64 0, .int .i64 0] 77).step (bnew5 _ (.cells #[.int .i64 3, .int .i64 q, .int .i64 q, .int .i64 0, .int .i64 0] 77))
  have hr1 := Box.new (w.alloc (.cells #[.int .i64 0, .int .i64 0, .int .i64 0, .int .i64 0, .int .i64 0] 77)) [.int .i64 3, .int .i64 q, .int .i64 q, .int .i64 0, .int .i64 0] 77
  have hb0 := bth5 (bnew5 w (.cells #[.int .i64 0, .int .i64 0, .int .i64 0, .int .i64 0, .int .i64 0] 77)) (bnew5 _ (.cells #[.int .i64 3, .int .i64 q, .int .i64 q, .int .i64 0, .int .i64 0] 77))
  have hsz : ((w.alloc (.cells #[.int .i64 0, .int .i64 0, .int .i64 0, .int .i64 0, .int .i64 0] 77)).alloc (.cells #[.int .i64 3, .int .i64 q, .int .i64 q, .int .i64 0, .int .i64 0] 77)).heap.size = w.heap.size + 2 := by simp
  rw [show (w.alloc (.cells #[.int .i64 0, .int .i64 0, .int .i64 0, .int .i64 0, .int .i64 0] 77)).heap.size = w.heap.size + 1 by simp] at hr1
  have hH := Lib.hid (And.intro hr0 (And.intro hr1 (And.intro hb0 hsz)))
  clear hr0 hr1 hb0 hsz
  go_enter Tryd.func32, Tryd.ntmps32
  go_wp2_with fail
  refine (q1 _).mono ?_
  rintro e w1 ⟨rfl, rfl⟩
  clear q1
  go_wp2_with fail
  refine (q2 _).mono ?_
  clear q2
  generalize (w.alloc (.cells #[.int .i64 0, .int .i64 0, .int .i64 0, .int .i64 0, .int .i64 0] 77)).alloc (.cells #[.int .i64 3, .int .i64 q, .int .i64 q, .int .i64 0, .int .i64 0] 77) = W1 at hH ⊢
  rw [hH.out.2.2.2]
  rintro e w2 ⟨rfl, hc0, hc1, hb2⟩
  have hb2 : Below W1.heap.size W1 w2 := by rw [hH.out.2.2.2]; exact hb2
  have hst0 : Hid (KY w s q w.heap.size (w.heap.size + 1) (w.heap.size + 2) [.int .i64 3, .int .i64 q, .int .i64 q, .int .i64 0, .int .i64 0] w2) := ⟨hH.out.1.step hb2, hH.out.2.1.step hb2, hc0, hc1, bth5 hH.out.2.2.1 hb2, by omega, by omega, by omega⟩
  clear hH hc0 hc1 hb2
  obtain ⟨g4, hg4⟩ : ∃ g4, g4 = w.heap.size := ⟨_, rfl⟩
  obtain ⟨g5, hg5⟩ : ∃ g5, g5 = w.heap.size + 1 := ⟨_, rfl⟩
  obtain ⟨G, hG⟩ : ∃ G, G = w.heap.size + 2 := ⟨_, rfl⟩
  rw [← hG, ← hg5, ← hg4] at hst0 ⊢
  clear hg5 hG
  try clear hg4
  go_wp2_with fail
  go_loopg [] (s.size - q) (fun g W => ∃ j, q ≤ j ∧ j + g = s.size ∧ Hid (∀ m, m < j - q → belB (s.data.toList.drop q) 2 m = true) ∧ Hid (KY w s q g4 g5 G [.int .i64 3, .int .i64 q, .int .i64 j, .int .i64 0, .int .i64 0] W))
  case atStart => exact ⟨q, Nat.le_refl _, by omega, fun m hm => absurd hm (by omega), hst0⟩
  case round =>
    obtain ⟨j, hqj, hjg, hbl, hk⟩ := hrel
    clear hst0
    obtain ⟨c0, c1, c2, c3, c4⟩ := hk.out.p.five5
    obtain ⟨z0, z1, z2, z3, z4⟩ := hk.out.p.frz5
    by_cases hlt : j < s.size
    · have hlt' : (j : Int) < s.size := by omega
      obtain ⟨d, hd⟩ : ∃ d, s.data.toList[j]? = some d := ⟨_, List.getElem?_eq_getElem (by omega)⟩
      have qb := belSign s q j G (G + 1) hqj hlt hs wr hk.out.c0 hk.out.c1
      have hbv : belB (s.data.toList.drop q) 2 (j - q) = (isSignB ((s.data.toList.drop q).take (j - q + 1))) := by
        unfold belB
        rw [if_pos rfl]
      rw [← hbv] at qb
      have HBV := Lib.hid hbv
      clear hbv hd
      cases hbb : belB (s.data.toList.drop q) 2 (j - q) with
      | true =>
        rw [hbb] at qb
        have hbl2 : Hid (∀ m, m < j + 1 - q → belB (s.data.toList.drop q) 2 m = true) := fun m hm => by
          by_cases e : m = j - q
          · rw [e]; exact hbb
          · exact hbl.out m (by omega)
        have hk2 := Lib.hid (hk.out.set 2 (.int .i64 ((j + 1 : Nat) : Int)))
        have hiu : IntKind.i64.wrap ((j : Int) + 1) = ((j + 1 : Nat) : Int) := (IntWalk.i64_in _ (by omega)).trans (by omega)
        obtain ⟨g, rfl⟩ : ∃ g', gk = g' + 1 := ⟨gk - 1, by omega⟩
        clear hbl hbb HBV
        go_wp2_with fail
        refine qb.mono ?_
        rintro e w3 ⟨rfl, hw3⟩
        have hw3 := hw3.symm
        subst hw3
        clear qb
        go_wp2_with fail
        go_roundg g
        case measure => omega
        case rel => exact ⟨j + 1, by omega, by omega, hbl2, hk2⟩
      | false =>
        rw [hbb] at qb
        clear HBV
        go_wp2_with fail
        refine qb.mono ?_
        rintro e w3 ⟨rfl, hw3⟩
        have hw3 := hw3.symm
        subst hw3
        clear qb c0 c1 c2 c3 c4 z0 z1 z2 z3 z4
        have hx : (s.extract q j).data.toList = (s.data.toList.drop q).take (j - q) := by
          rw [extract_span5]
          unfold span
          rw [List.drop_take]
        have hstop : q + (j - q) = s.data.toList.length ∨ belB (s.data.toList.drop q) 2 (j - q) = false := .inr hbb
        have hrun := pieceQ_run HC.out (n := j - q) (by omega) (by rw [hK]; exact hbl.out) (by rw [hK]; exact hstop)
        have hIx : (2 : Nat) = 1 → isIntB (s.extract q j).data.toList = true := fun h1 => by
          omega
        have q3 := fun w hL => tokCount 2 (by omega) (s.extract q j) hIx (by simp; omega) w hL
        rw [hK] at hrun
        rw [hx] at q3
        obtain ⟨cn, ce, hce⟩ : ∃ cn ce, countV 2 ((s.data.toList.drop q).take (j - q)) = (cn, ce) := ⟨_, _, rfl⟩
        rw [hce] at q3 hrun
        simp only at q3 hrun
        have hV : Hid (pieceA s.data.toList q = .agg #[.int .i64 2, .int .i64 q, .int .i64 j, .int .i64 cn, .int .i64 ce]) := by
          show pieceA s.data.toList q = _
          unfold pieceA
          rw [hrun, show q + (j - q) = j by omega]
          rfl
        have hk2 := Lib.hid (hk.out.set 0 (.int .i64 2))
        have hL2 : Hid (LaidR (wr.setCell ⟨g5, 0, none⟩ (.int .i64 2))) := hL0.out.below hk2.out.below
        obtain ⟨c0, c1, c2, c3, c4⟩ := hk.out.p.five5
        obtain ⟨z0, z1, z2, z3, z4⟩ := hk.out.p.frz5
        have v1 : (q : Int) ≤ j := by omega
        have v2 : (j : Int) ≤ s.size := by omega
        have v3 : (0 : Int) ≤ q := by omega
        have v4 : (0 : Int) ≤ j := by omega
        clear hx hrun hIx hstop hce hbl
        generalize hxs : s.extract q j = xs at *
        go_wp2_with fail
        refine (q3 _ hL2.out).mono ?_
        rintro e w3 ⟨rfl, hb3⟩
        have hk3 := hk2.out.step hb3
        have hs3 := (hk3.set 3 (.int .i64 cn)).set 4 (.int .i64 ce)
        obtain ⟨c0, c1, c2, c3, c4⟩ := hk3.p.five5
        obtain ⟨z0, z1, z2, z3, z4⟩ := hk3.p.frz5
        obtain ⟨r0, r1, r2, r3, r4⟩ := hk3.r.five5
        obtain ⟨y0, y1, y2, y3, y4⟩ := hk3.r.frz5
        have n1 : ¬ g4 = g5 := by have := hk3.l5; omega
        have hbf := Lib.hid (hs3.below)
        have l4 := Lib.hid hk3.l4
        clear hk hk2 hk3 hs3 hb3 q3 hL2
        go_wp2_with fail
        refine bodyPost_ret (v := .agg #[.int .i64 2, .int .i64 q, .int .i64 j, .int .i64 cn, .int .i64 ce]) (by simp [results, Tryd.results32, go_sem, r0, r1, r2, r3, r4]) rfl ?_
        exact ⟨by rw [hV.out], ((((hbf.out.setCell l4.out _).setCell l4.out _).setCell l4.out _).setCell l4.out _).setCell l4.out _⟩
    · have hj : j = s.size := by omega
      have hlt' : ¬ (j : Int) < s.size := by omega
      have hst9 := Lib.hid (show q + (j - q) = s.data.toList.length by omega)
      have hjle : j ≤ s.size := by omega
      clear c0 c1 c2 c3 c4 z0 z1 z2 z3 z4 hj hjg hlt
      have hx : (s.extract q j).data.toList = (s.data.toList.drop q).take (j - q) := by
        rw [extract_span5]
        unfold span
        rw [List.drop_take]
      have hstop : q + (j - q) = s.data.toList.length ∨ belB (s.data.toList.drop q) 2 (j - q) = false := .inl hst9.out
      have hrun := pieceQ_run HC.out (n := j - q) (by omega) (by rw [hK]; exact hbl.out) (by rw [hK]; exact hstop)
      have hIx : (2 : Nat) = 1 → isIntB (s.extract q j).data.toList = true := fun h1 => by
        omega
      have q3 := fun w hL => tokCount 2 (by omega) (s.extract q j) hIx (by simp; omega) w hL
      rw [hK] at hrun
      rw [hx] at q3
      obtain ⟨cn, ce, hce⟩ : ∃ cn ce, countV 2 ((s.data.toList.drop q).take (j - q)) = (cn, ce) := ⟨_, _, rfl⟩
      rw [hce] at q3 hrun
      simp only at q3 hrun
      have hV : Hid (pieceA s.data.toList q = .agg #[.int .i64 2, .int .i64 q, .int .i64 j, .int .i64 cn, .int .i64 ce]) := by
        show pieceA s.data.toList q = _
        unfold pieceA
        rw [hrun, show q + (j - q) = j by omega]
        rfl
      have hk2 := Lib.hid (hk.out.set 0 (.int .i64 2))
      have hL2 : Hid (LaidR (wr.setCell ⟨g5, 0, none⟩ (.int .i64 2))) := hL0.out.below hk2.out.below
      obtain ⟨c0, c1, c2, c3, c4⟩ := hk.out.p.five5
      obtain ⟨z0, z1, z2, z3, z4⟩ := hk.out.p.frz5
      have v1 : (q : Int) ≤ j := by omega
      have v2 : (j : Int) ≤ s.size := by omega
      have v3 : (0 : Int) ≤ q := by omega
      have v4 : (0 : Int) ≤ j := by omega
      clear hx hrun hIx hstop hce hbl
      generalize hxs : s.extract q j = xs at *
      go_wp2_with fail
      refine (q3 _ hL2.out).mono ?_
      rintro e w3 ⟨rfl, hb3⟩
      have hk3 := hk2.out.step hb3
      have hs3 := (hk3.set 3 (.int .i64 cn)).set 4 (.int .i64 ce)
      obtain ⟨c0, c1, c2, c3, c4⟩ := hk3.p.five5
      obtain ⟨z0, z1, z2, z3, z4⟩ := hk3.p.frz5
      obtain ⟨r0, r1, r2, r3, r4⟩ := hk3.r.five5
      obtain ⟨y0, y1, y2, y3, y4⟩ := hk3.r.frz5
      have n1 : ¬ g4 = g5 := by have := hk3.l5; omega
      have hbf := Lib.hid (hs3.below)
      have l4 := Lib.hid hk3.l4
      clear hk hk2 hk3 hs3 hb3 q3 hL2
      go_wp2_with fail
      refine bodyPost_ret (v := .agg #[.int .i64 2, .int .i64 q, .int .i64 j, .int .i64 cn, .int .i64 ce]) (by simp [results, Tryd.results32, go_sem, r0, r1, r2, r3, r4]) rfl ?_
      exact ⟨by rw [hV.out], ((((hbf.out.setCell l4.out _).setCell l4.out _).setCell l4.out _).setCell l4.out _).setCell l4.out _⟩
theorem tokCut (s : ByteArray) (p : Nat) (hp : p ≤ s.size) (hs : s.size ≤ 100000) (w : World) (hL : LaidR w) :
    Calls Tryd.prog 32 #[.string s, .int .i64 p] w fun e w' => e = .returned (pieceA s.data.toList (p + skipL (s.data.toList.drop p) false)) ∧ Below w.heap.size w w' := by
  have hl := size_len_ s
  obtain ⟨q, hq⟩ : ∃ q, q = p + skipL (s.data.toList.drop p) false := ⟨_, rfl⟩
  have hqle : q ≤ s.size := by rw [hq, ← hl]; exact skip_le _ _ (by omega)
  rw [← hq]
  by_cases h : q = s.size
  · exact tokCutEnd s p q hp hs hq h w
  · have hlt : q < s.size := by omega
    have hc : s.data.toList[q]? = some (s.data.toList[q]'(by omega)) := List.getElem?_eq_getElem _
    generalize s.data.toList[q]'(by omega) = c at hc
    have hK : ruleK c = 0 ∨ ruleK c = 1 ∨ ruleK c = 2 := by unfold ruleK; repeat' split <;> simp
    rcases hK with hK | hK | hK
    · exact tokCutK0 s p q hp hs hq hlt c hc hK w hL
    · exact tokCutK1 s p q hp hs hq hlt c hc hK w hL
    · exact tokCutK2 s p q hp hs hq hlt c hc hK w hL
end Go.Proofs.YthlpldmodflmjaaDoor
