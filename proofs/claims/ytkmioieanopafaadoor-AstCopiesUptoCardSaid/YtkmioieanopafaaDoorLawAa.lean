/- The chapter's examples (works) of layer 6. -/
import Derived.Test.YtkmioieanopafaaDoorNamF
import Derived.Test.YtkmioieanopafaaDoorAstO
import Derived.Test.YtkmioieanopafaaDoorAstQ
import Derived.Test.YtkmioieanopafaaDoorAstV
namespace Go.Proofs.YtkmioieanopafaaDoor
open Go.RowKit

/-- The chapter's program: a[i] = x + 1. -/
def exSV : SV := .mk 1 [97] [.mk 1 0 [105] 0 [] 0 0, .mk 4 0 [] 13 [.mk 1 0 [120] 0 [] 0 0, .mk 0 1 [] 0 [] 0 0] 0 0] [] [] 0 0
def exW (w : World) : World := (((w.alloc (.cells #[.int .i64 1, .int .i64 0, .string { data := #[120] }, .int .i64 0, .slice none 0 0, .int .i64 0, .int .i64 0, .int .i64 0, .int .i64 1, .string { data := #[] }, .int .i64 0, .slice none 0 0, .int .i64 0, .int .i64 0] 66)).alloc (.cells #[.int .i64 1, .int .i64 0, .string { data := #[105] }, .int .i64 0, .slice none 0 0, .int .i64 0, .int .i64 0, .int .i64 4, .int .i64 0, .string { data := #[] }, .int .i64 13, .slice (some ⟨w.heap.size, 0, none⟩) 2 2, .int .i64 0, .int .i64 0] 66)).alloc (.cells #[.int .i64 1, .string { data := #[97] }, .slice (some ⟨w.heap.size + 1, 0, none⟩) 2 2, .slice none 0 0, .slice none 0 0, .int .i64 0, .int .i64 0] 62)).alloc (.cells #[.slice none 0 0, .slice (some ⟨w.heap.size + 1 + 1, 0, none⟩) 1 1] 41)
theorem exW_bel (w : World) : Below w.heap.size w (exW w) := bth5 (bth5 (bth5 (bnew5 _ _) (bnew5 _ _)) (bnew5 _ _)) (bnew5 _ _)
theorem exW_box (w : World) : Box (exW w) (w.heap.size + 1 + 1 + 1) [.slice none 0 0, .slice (some ⟨w.heap.size + 1 + 1, 0, none⟩) 1 1] := by
  have h := Box.new (((w.alloc (.cells #[.int .i64 1, .int .i64 0, .string { data := #[120] }, .int .i64 0, .slice none 0 0, .int .i64 0, .int .i64 0, .int .i64 0, .int .i64 1, .string { data := #[] }, .int .i64 0, .slice none 0 0, .int .i64 0, .int .i64 0] 66)).alloc (.cells #[.int .i64 1, .int .i64 0, .string { data := #[105] }, .int .i64 0, .slice none 0 0, .int .i64 0, .int .i64 0, .int .i64 4, .int .i64 0, .string { data := #[] }, .int .i64 13, .slice (some ⟨w.heap.size, 0, none⟩) 2 2, .int .i64 0, .int .i64 0] 66)).alloc (.cells #[.int .i64 1, .string { data := #[97] }, .slice (some ⟨w.heap.size + 1, 0, none⟩) 2 2, .slice none 0 0, .slice none 0 0, .int .i64 0, .int .i64 0] 62)) [.slice none 0 0, .slice (some ⟨w.heap.size + 1 + 1, 0, none⟩) 1 1] 41
  rwa [show (((w.alloc (.cells #[.int .i64 1, .int .i64 0, .string { data := #[120] }, .int .i64 0, .slice none 0 0, .int .i64 0, .int .i64 0, .int .i64 0, .int .i64 1, .string { data := #[] }, .int .i64 0, .slice none 0 0, .int .i64 0, .int .i64 0] 66)).alloc (.cells #[.int .i64 1, .int .i64 0, .string { data := #[105] }, .int .i64 0, .slice none 0 0, .int .i64 0, .int .i64 0, .int .i64 4, .int .i64 0, .string { data := #[] }, .int .i64 13, .slice (some ⟨w.heap.size, 0, none⟩) 2 2, .int .i64 0, .int .i64 0] 66)).alloc (.cells #[.int .i64 1, .string { data := #[97] }, .slice (some ⟨w.heap.size + 1, 0, none⟩) 2 2, .slice none 0 0, .slice none 0 0, .int .i64 0, .int .i64 0] 62)).heap.size = w.heap.size + 1 + 1 + 1 by simp] at h
theorem exW_SR (w : World) : SR (exW w) (some ⟨w.heap.size + 1 + 1, 0, none⟩) [exSV] := by
  have g1 : (exW w).heap[w.heap.size]? = some (.cells #[.int .i64 1, .int .i64 0, .string { data := #[120] }, .int .i64 0, .slice none 0 0, .int .i64 0, .int .i64 0, .int .i64 0, .int .i64 1, .string { data := #[] }, .int .i64 0, .slice none 0 0, .int .i64 0, .int .i64 0] 66) := by
    unfold exW
    rw [Below.heap_alloc _ _ _ (by simp <;> omega), Below.heap_alloc _ _ _ (by simp <;> omega), Below.heap_alloc _ _ _ (by simp)]
    exact heap_alloc_new w _
  have g2 : (exW w).heap[w.heap.size + 1]? = some (.cells #[.int .i64 1, .int .i64 0, .string { data := #[105] }, .int .i64 0, .slice none 0 0, .int .i64 0, .int .i64 0, .int .i64 4, .int .i64 0, .string { data := #[] }, .int .i64 13, .slice (some ⟨w.heap.size, 0, none⟩) 2 2, .int .i64 0, .int .i64 0] 66) := by
    unfold exW
    rw [Below.heap_alloc _ _ _ (by simp <;> omega), Below.heap_alloc _ _ _ (by simp)]
    have := heap_alloc_new (w.alloc (.cells #[.int .i64 1, .int .i64 0, .string { data := #[120] }, .int .i64 0, .slice none 0 0, .int .i64 0, .int .i64 0, .int .i64 0, .int .i64 1, .string { data := #[] }, .int .i64 0, .slice none 0 0, .int .i64 0, .int .i64 0] 66)) (.cells #[.int .i64 1, .int .i64 0, .string { data := #[105] }, .int .i64 0, .slice none 0 0, .int .i64 0, .int .i64 0, .int .i64 4, .int .i64 0, .string { data := #[] }, .int .i64 13, .slice (some ⟨w.heap.size, 0, none⟩) 2 2, .int .i64 0, .int .i64 0] 66)
    rwa [show (w.alloc (.cells #[.int .i64 1, .int .i64 0, .string { data := #[120] }, .int .i64 0, .slice none 0 0, .int .i64 0, .int .i64 0, .int .i64 0, .int .i64 1, .string { data := #[] }, .int .i64 0, .slice none 0 0, .int .i64 0, .int .i64 0] 66)).heap.size = w.heap.size + 1 by simp] at this
  have g3 : (exW w).heap[w.heap.size + 1 + 1]? = some (.cells #[.int .i64 1, .string { data := #[97] }, .slice (some ⟨w.heap.size + 1, 0, none⟩) 2 2, .slice none 0 0, .slice none 0 0, .int .i64 0, .int .i64 0] 62) := by
    unfold exW
    rw [Below.heap_alloc _ _ _ (by simp)]
    have := heap_alloc_new ((w.alloc (.cells #[.int .i64 1, .int .i64 0, .string { data := #[120] }, .int .i64 0, .slice none 0 0, .int .i64 0, .int .i64 0, .int .i64 0, .int .i64 1, .string { data := #[] }, .int .i64 0, .slice none 0 0, .int .i64 0, .int .i64 0] 66)).alloc (.cells #[.int .i64 1, .int .i64 0, .string { data := #[105] }, .int .i64 0, .slice none 0 0, .int .i64 0, .int .i64 0, .int .i64 4, .int .i64 0, .string { data := #[] }, .int .i64 13, .slice (some ⟨w.heap.size, 0, none⟩) 2 2, .int .i64 0, .int .i64 0] 66)) (.cells #[.int .i64 1, .string { data := #[97] }, .slice (some ⟨w.heap.size + 1, 0, none⟩) 2 2, .slice none 0 0, .slice none 0 0, .int .i64 0, .int .i64 0] 62)
    rwa [show ((w.alloc (.cells #[.int .i64 1, .int .i64 0, .string { data := #[120] }, .int .i64 0, .slice none 0 0, .int .i64 0, .int .i64 0, .int .i64 0, .int .i64 1, .string { data := #[] }, .int .i64 0, .slice none 0 0, .int .i64 0, .int .i64 0] 66)).alloc (.cells #[.int .i64 1, .int .i64 0, .string { data := #[105] }, .int .i64 0, .slice none 0 0, .int .i64 0, .int .i64 0, .int .i64 4, .int .i64 0, .string { data := #[] }, .int .i64 13, .slice (some ⟨w.heap.size, 0, none⟩) 2 2, .int .i64 0, .int .i64 0] 66)).heap.size = w.heap.size + 1 + 1 by simp] at this
  have x1 : XR (exW w) (some ⟨w.heap.size, 0, none⟩) [.mk 1 0 [120] 0 [] 0 0, .mk 0 1 [] 0 [] 0 0] :=
    XR.of_block (vs := (#[.int .i64 1, .int .i64 0, .string { data := #[120] }, .int .i64 0, .slice none 0 0, .int .i64 0, .int .i64 0, .int .i64 0, .int .i64 1, .string { data := #[] }, .int .i64 0, .slice none 0 0, .int .i64 0, .int .i64 0] : Array Value).toList) g1 ⟨_, _, rfl, ⟨none, 0, rfl, fun h => absurd rfl h⟩, _, [], rfl, ⟨none, 0, rfl, fun h => absurd rfl h⟩, rfl⟩
  have x2 : XR (exW w) (some ⟨w.heap.size + 1, 0, none⟩) [.mk 1 0 [105] 0 [] 0 0, .mk 4 0 [] 13 [.mk 1 0 [120] 0 [] 0 0, .mk 0 1 [] 0 [] 0 0] 0 0] :=
    XR.of_block (vs := (#[.int .i64 1, .int .i64 0, .string { data := #[105] }, .int .i64 0, .slice none 0 0, .int .i64 0, .int .i64 0, .int .i64 4, .int .i64 0, .string { data := #[] }, .int .i64 13, .slice (some ⟨w.heap.size, 0, none⟩) 2 2, .int .i64 0, .int .i64 0] : Array Value).toList) g2 ⟨_, _, rfl, ⟨none, 0, rfl, fun h => absurd rfl h⟩, _, [], rfl, ⟨some ⟨w.heap.size, 0, none⟩, 2, rfl, x1⟩, rfl⟩
  exact SR.of_block (vs := (#[.int .i64 1, .string { data := #[97] }, .slice (some ⟨w.heap.size + 1, 0, none⟩) 2 2, .slice none 0 0, .slice none 0 0, .int .i64 0, .int .i64 0] : Array Value).toList) g3 ⟨_, [], rfl, ⟨some ⟨w.heap.size + 1, 0, none⟩, 2, none, 0, none, 0, rfl, x2, fun h => absurd rfl h, fun h => absurd rfl h⟩, rfl⟩
theorem ex_reads : nmN 0 [exSV] = [[105], [120]] := by decide
theorem ex_writes : nmN 1 [exSV] = [[97]] := by decide
theorem ex_op : op6 [45] true = (18, true) := by decide
theorem ex_txt : txt6 11 = [60, 60] := by decide
theorem ex_lev : lev6 11 = 7 := by decide
theorem ex_n1 : name6 [105, 102] = false := by decide
theorem ex_n2 : name6 [120, 49] = true := by decide
theorem ex_size : ssz [exSV] + dsz [] = 5 := by decide
theorem ex_depth : max (sdp [exSV]) (ddp []) = 3 := by decide
theorem ex_bk : sbk [exSV] ≤ 4000000 := by decide

/-- What the walk keeps. -/
structure ExK (w W : World) : Prop where
  l : LaidW W
  b : Below w.heap.size w W
  k : Box W (w.heap.size + 1 + 1 + 1) [.slice none 0 0, .slice (some ⟨w.heap.size + 1 + 1, 0, none⟩) 1 1]
  s : SR W (some ⟨w.heap.size + 1 + 1, 0, none⟩) [exSV]
theorem ExK.step {w W W' : World} (h : ExK w W) (hb : Below W.heap.size W W') : ExK w W' := ⟨h.l.step hb, bth5 h.b hb, h.k.step hb, h.s.step hb⟩
theorem rows2 {W : World} {A : Option Addr} {a b : List UInt8} (h : RowS W A 2 [a, b]) : ∃ ad, A = some ad ∧ W.cell? ad = some (.string ⟨a.toArray⟩) ∧ W.cell? ⟨ad.block, ad.off + 1, none⟩ = some (.string ⟨b.toArray⟩) := by
  obtain ⟨ad, l, h1, h2, h3⟩ := h.at_ (i := 0) (by omega)
  obtain ⟨ad', l', h1', h2', h3'⟩ := h.at_ (i := 1) (by omega)
  rw [h1] at h1'
  injection h1' with h1'
  subst h1'
  simp at h2 h2'
  subst h2 h2'
  exact ⟨ad, h1, by simpa [Addr.add] using h3, h3'⟩
theorem rows1 {W : World} {A : Option Addr} {a : List UInt8} (h : RowS W A 1 [a]) : ∃ ad, A = some ad ∧ W.cell? ad = some (.string ⟨a.toArray⟩) := by
  obtain ⟨ad, l, h1, h2, h3⟩ := h.at_ (i := 0) (by omega)
  simp at h2
  subst h2
  exact ⟨ad, h1, by simpa [Addr.add] using h3⟩

set_option maxHeartbeats 16000000 in
set_option maxRecDepth 100000 in
theorem works_ast (w : World) (hL : LaidW w) : Calls Tryd.prog 7 #[] w fun e w' => e = .returned (.bool true) ∧ Below w.heap.size w w' := by
  have K0 : Hid (ExK w (exW w)) := ⟨hL.step (exW_bel w), exW_bel w, exW_box w, exW_SR w⟩
  have q1 := fun W (h : LaidW W) => astOperator [45] true W h
  rw [ex_op] at q1
  have q2 := Lib.hid (fun W (h : SR W (some ⟨w.heap.size + 1 + 1, 0, none⟩) [exSV]) => astReads [exSV] (some ⟨w.heap.size + 1 + 1, 0, none⟩) 1 W ex_bk h)
  have q3 := Lib.hid (fun W (h : SR W (some ⟨w.heap.size + 1 + 1, 0, none⟩) [exSV]) => astWrites [exSV] (some ⟨w.heap.size + 1 + 1, 0, none⟩) 1 W ex_bk h)
  rw [ex_reads] at q2
  rw [ex_writes] at q3
  have q4 := Lib.hid (fun W (h : LaidW W) => astText 11 W h)
  have q5 := Lib.hid (fun W (h : LaidW W) => astLevel 11 W h)
  have q6 := Lib.hid (fun W (h : LaidW W) => astName [105, 102] (by decide) W h)
  have q7 := Lib.hid (fun W (h : LaidW W) => astName [120, 49] (by decide) W h)
  rw [ex_txt] at q4
  rw [ex_lev] at q5
  rw [ex_n1] at q6
  rw [ex_n2] at q7
  have q8 := Lib.hid (fun W (h : SR W (some ⟨w.heap.size + 1 + 1, 0, none⟩) [exSV]) => astSize6 [] [exSV] (by rw [ex_size]; omega) none 0 (some ⟨w.heap.size + 1 + 1, 0, none⟩) 1 W (DR.nil _ _) h)
  have q9 := Lib.hid (fun W (h : SR W (some ⟨w.heap.size + 1 + 1, 0, none⟩) [exSV]) => astDepth6 [] [exSV] (by rw [ex_size]; omega) none 0 (some ⟨w.heap.size + 1 + 1, 0, none⟩) 1 W (DR.nil _ _) h)
  rw [ex_size] at q8
  rw [ex_depth] at q9
  clear hL
  go_enter Tryd.func7, Tryd.ntmps7
  go_wp2_with fail
  refine (q1 _ K0.out.l).mono ?_
  rintro e w1 ⟨rfl, rfl⟩
  clear q1
  have K1 := Lib.hid (K0.out.step (Below.refl (exW w).heap.size (exW w)).drew)
  have s1 := K1.out.k.two
  go_wp2_with fail
  change Code.wp _ _ _ _ (exW w)
  go_region_held3 (fun w' => w'.cell? ⟨w.heap.size + 1 + 1 + 1, 0, none⟩ = some (.slice none 0 0) ∧ w'.cell? ⟨w.heap.size + 1 + 1 + 1, 1, none⟩ = some (.slice (some ⟨w.heap.size + 1 + 1, 0, none⟩) 1 1)) (first | with_reducible exact s1 | with_reducible exact s2 | with_reducible exact s3)
    (first
      | (go_at_call 35
         refine (q2.out _ K1.out.s).mono ?_
         rintro e w2 ⟨v, rfl, hr, hw⟩
         have K2 := Lib.hid (K1.out.step hw)
         have s2 := K2.out.k.two
         obtain ⟨A, cA, rfl, hRA⟩ := NamP.row hr
         have HRA := Lib.hid hRA
         clear hRA hr)
      | (go_at_call 36
         refine (q3.out _ K2.out.s).mono ?_
         rintro e w3 ⟨v, rfl, hr, hw3⟩
         have K3 := Lib.hid (K2.out.step hw3)
         have s3 := K3.out.k.two
         have HRA3 := Lib.hid (HRA.out.below hw3)
         obtain ⟨B, cB, rfl, hRB⟩ := NamP.row hr
         have HRB := Lib.hid hRB
         clear hRB hr))
  clear q2 q3 s1 s2 HRA
  go_wp2_with fail
  refine (q4.out _ K3.out.l).mono ?_
  rintro e w4 ⟨rfl, rfl⟩
  go_wp2_with fail
  refine (q5.out _ K3.out.l).mono ?_
  rintro e w4 ⟨rfl, rfl⟩
  go_wp2_with fail
  refine (q6.out _ K3.out.l).mono ?_
  rintro e w6 ⟨rfl, hw6⟩
  have K6 := Lib.hid (K3.out.step hw6)
  have A6 := Lib.hid (HRA3.out.below hw6)
  have B6 := Lib.hid (HRB.out.below hw6)
  clear K3 HRA3 HRB s3 q4 q5 q6
  go_wp2_with fail
  refine (q7.out _ K6.out.l).mono ?_
  rintro e w7 ⟨rfl, hw7⟩
  have K7 := Lib.hid (K6.out.step hw7)
  have A7 := Lib.hid (A6.out.below hw7)
  have B7 := Lib.hid (B6.out.below hw7)
  have s7 := K7.out.k.two
  clear K6 A6 B6 q7
  go_wp2_with fail
  refine (q8.out _ K7.out.s).mono ?_
  rintro e w8 ⟨rfl, hw8⟩
  have K8 := Lib.hid (K7.out.step hw8)
  have A8 := Lib.hid (A7.out.below hw8)
  have B8 := Lib.hid (B7.out.below hw8)
  have s8 := K8.out.k.two
  clear K7 A7 B7 s7 q8
  go_wp2_with fail
  refine (q9.out _ K8.out.s).mono ?_
  rintro e w9 ⟨rfl, hw9⟩
  have K9 := Lib.hid (K8.out.step hw9)
  obtain ⟨ad, rfl, ha1, ha2⟩ := rows2 (A8.out.below hw9)
  obtain ⟨bd, rfl, hb1⟩ := rows1 (B8.out.below hw9)
  clear K8 A8 B8 s8 q9
  go_wp2_with fail
  go_ret
  exact ⟨rfl, K9.out.b⟩
end Go.Proofs.YtkmioieanopafaaDoor
