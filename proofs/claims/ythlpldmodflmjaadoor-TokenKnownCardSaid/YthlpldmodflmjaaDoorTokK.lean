/- The laws of layer 5: what they share: at, ref, fault, same, refs. -/
import Derived.Test.YthlpldmodflmjaaDoorTokJ
namespace Go.Proofs.YthlpldmodflmjaaDoor
open Go.RowKit

theorem Box.five {W : World} {g : Nat} {a b c d e : Value} {vs : List Value} (h : Box W g (a :: b :: c :: d :: e :: vs)) : W.cell? ⟨g, 0, none⟩ = some a ∧ W.cell? ⟨g, 1, none⟩ = some b ∧ W.cell? ⟨g, 2, none⟩ = some c ∧ W.cell? ⟨g, 3, none⟩ = some d ∧ W.cell? ⟨g, 4, none⟩ = some e :=
  ⟨(h 0 _ rfl).1, (h 1 _ rfl).1, (h 2 _ rfl).1, (h 3 _ rfl).1, (h 4 _ rfl).1⟩

set_option maxHeartbeats 400000 in
theorem lawAt (l c : Int) (w : World) : Calls Tryd.prog 30 #[.agg #[.int .i64 l, .int .i64 c]] w fun e w' => e = .returned (.agg #[.int .i64 l, .int .i64 c]) ∧ Below w.heap.size w w' := by
  go_enter Tryd.func30, Tryd.ntmps30
  go_wp2_with fail
  refine bodyPost_ret (v := .agg #[.int .i64 l, .int .i64 c]) (by simp [results, Tryd.results30, go_sem]) rfl ?_
  exact ⟨rfl, by first | exact (((Below.refl _ _).alloc (Nat.le_refl _) _).alloc (by simp) _) | exact ((((Below.refl _ _).alloc (Nat.le_refl _) _).alloc (by simp) _).setCell (by simp) _).setCell (by simp) _⟩

set_option maxHeartbeats 2000000 in
theorem lawRefT (k : Int) (x : ByteArray) (n l c : Int) (w : World) : Calls Tryd.prog 11 #[.agg #[.int .i64 k, .string x, .int .i64 n, .int .i64 l, .int .i64 c]] w fun e w' => e = .returned (.agg #[.int .i64 k, .string x, .int .i64 n, .int .i64 l, .int .i64 c]) ∧ Below w.heap.size w w' := by
  have h0 := bnew5 w (.cells #[.int .i64 k, .string x, .int .i64 n, .int .i64 l, .int .i64 c] 34)
  have h1 := bnew5 (w.alloc (.cells #[.int .i64 k, .string x, .int .i64 n, .int .i64 l, .int .i64 c] 34)) (.cells #[.int .i64 0, .string ⟨#[]⟩, .int .i64 0, .int .i64 0, .int .i64 0] 40)
  have ha : Box ((w.alloc (.cells #[.int .i64 k, .string x, .int .i64 n, .int .i64 l, .int .i64 c] 34)).alloc (.cells #[.int .i64 0, .string ⟨#[]⟩, .int .i64 0, .int .i64 0, .int .i64 0] 40)) w.heap.size [.int .i64 k, .string x, .int .i64 n, .int .i64 l, .int .i64 c] := (Box.new w _ _).step h1
  have hb : Box ((w.alloc (.cells #[.int .i64 k, .string x, .int .i64 n, .int .i64 l, .int .i64 c] 34)).alloc (.cells #[.int .i64 0, .string ⟨#[]⟩, .int .i64 0, .int .i64 0, .int .i64 0] 40)) (w.heap.size + 1) [.int .i64 0, .string ⟨#[]⟩, .int .i64 0, .int .i64 0, .int .i64 0] := by
    have := Box.new (w.alloc (.cells #[.int .i64 k, .string x, .int .i64 n, .int .i64 l, .int .i64 c] 34)) [.int .i64 0, .string ⟨#[]⟩, .int .i64 0, .int .i64 0, .int .i64 0] 40
    rw [show (w.alloc (.cells #[.int .i64 k, .string x, .int .i64 n, .int .i64 l, .int .i64 c] 34)).heap.size = w.heap.size + 1 by simp] at this
    exact this
  have hbw := bth5 h0 h1
  have q1 := fun w => lawAt l c w
  clear h0 h1
  go_enter Tryd.func11, Tryd.ntmps11
  go_wp2_with fail
  generalize (w.alloc (.cells #[.int .i64 k, .string x, .int .i64 n, .int .i64 l, .int .i64 c] 34)).alloc (.cells #[.int .i64 0, .string ⟨#[]⟩, .int .i64 0, .int .i64 0, .int .i64 0] 40) = W at *
  have s0 := ha.drew.five
  have hbd := hbw.drew
  have ha0 := Lib.hid ha.drew
  have hb0 := Lib.hid hb.drew
  clear ha hb hbw
  go_region_held3 (fun w' => w'.cell? ⟨w.heap.size, 0, none⟩ = some (.int .i64 k) ∧ w'.cell? ⟨w.heap.size, 1, none⟩ = some (.string x) ∧ w'.cell? ⟨w.heap.size, 2, none⟩ = some (.int .i64 n) ∧ w'.cell? ⟨w.heap.size, 3, none⟩ = some (.int .i64 l) ∧ w'.cell? ⟨w.heap.size, 4, none⟩ = some (.int .i64 c)) (first | with_reducible exact s0 | with_reducible exact s1 | with_reducible exact s2)
    (first
      | (go_at_call 30
         with_reducible refine (q1 W.drew).mono ?_
         rintro e w2 ⟨rfl, hb2⟩
         have ha2 := Lib.hid (ha0.out.step hb2)
         have hr2 := hb0.out.step hb2
         have s1 := ha2.out.five
         have s2 := (ha2.out.far5 (b := w.heap.size + 1) (by omega) (.int .i64 k) (.string x) (.int .i64 n) (.int .i64 l) (.int .i64 c)).five
         have c0 := (hr2 0 _ rfl).1
         have c1 := (hr2 1 _ rfl).1
         have c2 := (hr2 2 _ rfl).1
         have c3 := (hr2 3 _ rfl).1
         have c4 := (hr2 4 _ rfl).1
         have f0 := (hr2 0 _ rfl).2
         have f1 := (hr2 1 _ rfl).2
         have f2 := (hr2 2 _ rfl).2
         have f3 := (hr2 3 _ rfl).2
         have f4 := (hr2 4 _ rfl).2
         have hbw2 := bth5 hbd hb2))
  all_goals
    (go_wp2_with fail
     refine bodyPost_ret (v := .agg #[.int .i64 k, .string x, .int .i64 n, .int .i64 l, .int .i64 c]) (by simp [results, Tryd.results11, go_sem, c0, c1, c2, c3, c4]) rfl ?_
     exact ⟨rfl, ((((hbw2.setCell (Nat.le_succ _) _).setCell (Nat.le_succ _) _).setCell (Nat.le_succ _) _).setCell (Nat.le_succ _) _).setCell (Nat.le_succ _) _⟩)

set_option maxHeartbeats 2000000 in
theorem lawFaultT (l c n : Int) (w : World) : Calls Tryd.prog 12 #[.agg #[.int .i64 l, .int .i64 c, .int .i64 n]] w fun e w' => e = .returned (.agg #[.int .i64 l, .int .i64 c, .int .i64 n]) ∧ Below w.heap.size w w' := by
  have h0 := bnew5 w (.cells #[.int .i64 l, .int .i64 c, .int .i64 n] 36)
  have h1 := bnew5 (w.alloc (.cells #[.int .i64 l, .int .i64 c, .int .i64 n] 36)) (.cells #[.int .i64 0, .int .i64 0, .int .i64 0] 28)
  have ha : Box ((w.alloc (.cells #[.int .i64 l, .int .i64 c, .int .i64 n] 36)).alloc (.cells #[.int .i64 0, .int .i64 0, .int .i64 0] 28)) w.heap.size [.int .i64 l, .int .i64 c, .int .i64 n] := (Box.new w _ _).step h1
  have hb : Box ((w.alloc (.cells #[.int .i64 l, .int .i64 c, .int .i64 n] 36)).alloc (.cells #[.int .i64 0, .int .i64 0, .int .i64 0] 28)) (w.heap.size + 1) [.int .i64 0, .int .i64 0, .int .i64 0] := by
    have := Box.new (w.alloc (.cells #[.int .i64 l, .int .i64 c, .int .i64 n] 36)) [.int .i64 0, .int .i64 0, .int .i64 0] 28
    rw [show (w.alloc (.cells #[.int .i64 l, .int .i64 c, .int .i64 n] 36)).heap.size = w.heap.size + 1 by simp] at this
    exact this
  have hbw := bth5 h0 h1
  have q1 := fun w => lawAt l c w
  clear h0 h1
  go_enter Tryd.func12, Tryd.ntmps12
  go_wp2_with fail
  generalize (w.alloc (.cells #[.int .i64 l, .int .i64 c, .int .i64 n] 36)).alloc (.cells #[.int .i64 0, .int .i64 0, .int .i64 0] 28) = W at *
  have s0 := ha.drew.three
  have hbd := hbw.drew
  have ha0 := Lib.hid ha.drew
  have hb0 := Lib.hid hb.drew
  clear ha hb hbw
  go_region_held3 (fun w' => w'.cell? ⟨w.heap.size, 0, none⟩ = some (.int .i64 l) ∧ w'.cell? ⟨w.heap.size, 1, none⟩ = some (.int .i64 c) ∧ w'.cell? ⟨w.heap.size, 2, none⟩ = some (.int .i64 n)) (first | with_reducible exact s0 | with_reducible exact s1 | with_reducible exact s2)
    (first
      | (go_at_call 30
         with_reducible refine (q1 W.drew).mono ?_
         rintro e w2 ⟨rfl, hb2⟩
         have ha2 := Lib.hid (ha0.out.step hb2)
         have hr2 := hb0.out.step hb2
         have s1 := ha2.out.three
         have s2 := (ha2.out.far3 (b := w.heap.size + 1) (by omega) (.int .i64 l) (.int .i64 c) (.int .i64 n)).three
         have c0 := (hr2 0 _ rfl).1
         have c1 := (hr2 1 _ rfl).1
         have c2 := (hr2 2 _ rfl).1
         have f0 := (hr2 0 _ rfl).2
         have f1 := (hr2 1 _ rfl).2
         have f2 := (hr2 2 _ rfl).2
         have hbw2 := bth5 hbd hb2))
  all_goals
    (go_wp2_with fail
     refine bodyPost_ret (v := .agg #[.int .i64 l, .int .i64 c, .int .i64 n]) (by simp [results, Tryd.results12, go_sem, c0, c1, c2]) rfl ?_
     exact ⟨rfl, ((hbw2.setCell (Nat.le_succ _) _).setCell (Nat.le_succ _) _).setCell (Nat.le_succ _) _⟩)
end Go.Proofs.YthlpldmodflmjaaDoor
