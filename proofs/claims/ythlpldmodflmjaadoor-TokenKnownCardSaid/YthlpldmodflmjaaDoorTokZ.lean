/- The contracts of layer 5's moved; the library's Clone. -/
import Derived.Test.YthlpldmodflmjaaDoorTokY
import Derived.Test.YthlpldmodflmjaaDoorPosC
namespace Go.Proofs.YthlpldmodflmjaaDoor
open Go.RowKit

/-- Behind a text that begins at a position. -/
def mvd (a b : Nat × Nat) : Nat × Nat := if 1 < b.1 then (a.1 + b.1 - 1, b.2) else (a.1, a.2 + b.2 - 1)
theorem spot_take (L : List UInt8) (m : Nat) : ∀ i, i ≤ m → spot (L.take m) i = spot L i
  | 0, _ => rfl
  | i + 1, h => by
    have hg : (L.take m)[i]? = L[i]? := by rw [List.getElem?_take, if_pos (by omega)]
    by_cases e : L[i]? = some 10
    · rw [spot_nl e, spot_nl (hg.trans e), spot_take L m i (by omega)]
    · rw [spot_ch e, spot_ch (by rw [hg]; exact e), spot_take L m i (by omega)]
theorem spot_moved (L : List UInt8) (p : Nat) : ∀ m, spot L (p + m) = mvd (spot L p) (spot (L.drop p) m)
  | 0 => by simp [mvd, spot]
  | m + 1 => by
    have ih := spot_moved L p m
    have hg : (L.drop p)[m]? = L[p + m]? := by rw [List.getElem?_drop]
    have hp := spot_pos (L.drop p) m
    have hq := spot_pos L p
    rw [show p + (m + 1) = (p + m) + 1 by omega]
    by_cases e : L[p + m]? = some 10
    · rw [spot_nl e, spot_nl (hg.trans e), ih]
      unfold mvd
      by_cases h1 : 1 < (spot (L.drop p) m).1
      · rw [if_pos h1, if_pos (by simp; omega)]
        simp; omega
      · rw [if_neg h1, if_pos (by simp; omega)]
        simp; omega
    · rw [spot_ch e, spot_ch (by rw [hg]; exact e), ih]
      unfold mvd
      by_cases h1 : 1 < (spot (L.drop p) m).1
      · rw [if_pos h1, if_pos (by exact h1)]
      · rw [if_neg h1, if_neg (by exact h1)]
        simp; omega

set_option maxHeartbeats 2000000 in
theorem tokMoved (l c : Nat) (hl : l ≤ 1000000) (hc : c ≤ 1000000) (t : ByteArray) (ht : t.size ≤ 100000) (w : World) :
    Calls Tryd.prog 31 #[.agg #[.int .i64 l, .int .i64 c], .string t] w fun e w' => e = .returned (.agg #[.int .i64 ((mvd (l, c) (spot t.data.toList t.size)).1 : Nat), .int .i64 ((mvd (l, c) (spot t.data.toList t.size)).2 : Nat)]) ∧ Below w.heap.size w w' := by
  have q1 := fun w => posOf_yes t t.size (Nat.le_refl _) ht w
  have hsp := spot_pos t.data.toList t.size
  obtain ⟨⟨x, y⟩, hxy⟩ : ∃ b, spot t.data.toList t.size = b := ⟨_, rfl⟩
  rw [hxy] at q1 hsp ⊢
  simp only at q1 hsp
  clear hxy
  have hr0 := (Box.new w [.int .i64 l, .int .i64 c] 32).step (bnew5 _ (.cells #[.int .i64 0, .int .i64 0] 32))
  have hr1 := Box.new (w.alloc (.cells #[.int .i64 l, .int .i64 c] 32)) [.int .i64 0, .int .i64 0] 32
  have hb0 := bth5 (bnew5 w (.cells #[.int .i64 l, .int .i64 c] 32)) (bnew5 _ (.cells #[.int .i64 0, .int .i64 0] 32))
  rw [show (w.alloc (.cells #[.int .i64 l, .int .i64 c] 32)).heap.size = w.heap.size + 1 by simp] at hr1
  have hH := Lib.hid (And.intro hr0 (And.intro hr1 hb0))
  clear hr0 hr1 hb0
  have fin : ∀ w2, Below ((w.alloc (.cells #[.int .i64 l, .int .i64 c] 32)).alloc (.cells #[.int .i64 0, .int .i64 0] 32)).heap.size ((w.alloc (.cells #[.int .i64 l, .int .i64 c] 32)).alloc (.cells #[.int .i64 0, .int .i64 0] 32)) w2 → Hid (Box w2 w.heap.size [.int .i64 l, .int .i64 c] ∧ Box w2 (w.heap.size + 1) [.int .i64 0, .int .i64 0] ∧ Below w.heap.size w w2 ∧ w.heap.size + 1 < w2.heap.size) := fun w2 hb => by
    have hs := hb.size
    exact ⟨hH.out.1.step hb, hH.out.2.1.step hb, bth5 hH.out.2.2 hb, by simp at hs; omega⟩
  have FIN := Lib.hid fin
  clear fin hH
  by_cases h1 : 1 < x
  · have h1' : (1 : Int) < x := by omega
    have hv : Hid ((.agg #[.int .i64 ((mvd (l, c) (x, y)).1 : Nat), .int .i64 ((mvd (l, c) (x, y)).2 : Nat)] : Value) = .agg #[.int .i64 ((l : Int) + x - 1), .int .i64 y]) := by
      show _ = _
      unfold mvd
      rw [if_pos h1]
      congr 3
      simp; omega
    have u1 : IntKind.i64.wrap ((l : Int) + x) = (l : Int) + x := IntWalk.i64_in _ (by omega)
    have u2 : IntKind.i64.wrap ((l : Int) + x - 1) = (l : Int) + x - 1 := IntWalk.i64_in _ (by omega)
    go_enter Tryd.func31, Tryd.ntmps31
    go_wp2_with fail
    refine (q1 _).mono ?_
    rintro e w2 ⟨rfl, hb⟩
    have hK := FIN.out w2 hb
    obtain ⟨k0, k1⟩ := hK.out.1.two
    obtain ⟨k4, k5⟩ := hK.out.2.1.two
    have z4 := (hK.out.2.1 0 _ rfl).2
    have z5 := (hK.out.2.1 1 _ rfl).2
    have n1 := hK.out.2.2.2
    have n0 : w.heap.size < w2.heap.size := by omega
    have hbn := Lib.hid hK.out.2.2.1
    have hsz : Hid (∀ u v, w.heap.size ≤ ((w2.setCell ⟨w.heap.size + 1, 0, none⟩ u).setCell ⟨w.heap.size + 1, 1, none⟩ v).heap.size) := by intro u v; simp; omega
    clear FIN q1 hb hsp
    go_wp2_with fail
    refine bodyPost_ret (v := .agg #[.int .i64 ((l : Int) + x - 1), .int .i64 y]) (by simp [results, Tryd.results31, go_sem, k4, k5, World.cell?_alloc_lt, n1]) rfl ?_
    rw [hv.out]
    exact ⟨rfl, ((hbn.out.setCell (Nat.le_succ _) _).setCell (Nat.le_succ _) _).alloc (hsz.out _ _) _⟩
  · have h1' : ¬ (1 : Int) < x := by omega
    have hv : Hid ((.agg #[.int .i64 ((mvd (l, c) (x, y)).1 : Nat), .int .i64 ((mvd (l, c) (x, y)).2 : Nat)] : Value) = .agg #[.int .i64 l, .int .i64 ((c : Int) + y - 1)]) := by
      show _ = _
      unfold mvd
      rw [if_neg h1]
      congr 4
      simp; omega
    have u1 : IntKind.i64.wrap ((c : Int) + y) = (c : Int) + y := IntWalk.i64_in _ (by omega)
    have u2 : IntKind.i64.wrap ((c : Int) + y - 1) = (c : Int) + y - 1 := IntWalk.i64_in _ (by omega)
    go_enter Tryd.func31, Tryd.ntmps31
    go_wp2_with fail
    refine (q1 _).mono ?_
    rintro e w2 ⟨rfl, hb⟩
    have hK := FIN.out w2 hb
    obtain ⟨k0, k1⟩ := hK.out.1.two
    obtain ⟨k4, k5⟩ := hK.out.2.1.two
    have z4 := (hK.out.2.1 0 _ rfl).2
    have z5 := (hK.out.2.1 1 _ rfl).2
    have n1 := hK.out.2.2.2
    have n0 : w.heap.size < w2.heap.size := by omega
    have hbn := Lib.hid hK.out.2.2.1
    have hsz : Hid (∀ u v, w.heap.size ≤ ((w2.setCell ⟨w.heap.size + 1, 0, none⟩ u).setCell ⟨w.heap.size + 1, 1, none⟩ v).heap.size) := by intro u v; simp; omega
    clear FIN q1 hb hsp
    go_wp2_with fail
    refine bodyPost_ret (v := .agg #[.int .i64 l, .int .i64 ((c : Int) + y - 1)]) (by simp [results, Tryd.results31, go_sem, k4, k5, World.cell?_alloc_lt, n1]) rfl ?_
    rw [hv.out]
    exact ⟨rfl, ((hbn.out.setCell (Nat.le_succ _) _).setCell (Nat.le_succ _) _).alloc (hsz.out _ _) _⟩
/-- moved, within a text. -/
theorem tokMovedIn (s : ByteArray) (p q : Nat) (hpq : p ≤ q) (hq : q ≤ s.size) (hs : s.size ≤ 100000) (w : World) :
    Calls Tryd.prog 31 #[.agg #[.int .i64 ((spot s.data.toList p).1 : Nat), .int .i64 ((spot s.data.toList p).2 : Nat)], .string (s.extract p q)] w fun e w' => e = .returned (.agg #[.int .i64 ((spot s.data.toList q).1 : Nat), .int .i64 ((spot s.data.toList q).2 : Nat)]) ∧ Below w.heap.size w w' := by
  have hsp := spot_pos s.data.toList p
  have hsz : (s.extract p q).size = q - p := by simp; omega
  have hm := tokMoved (spot s.data.toList p).1 (spot s.data.toList p).2 (by omega) (by omega) (s.extract p q) (by omega) w
  have e : (s.extract p q).data.toList = (s.data.toList.drop p).take (q - p) := by
    rw [extract_span5]
    unfold span
    rw [List.drop_take]
  rw [hsz, e, spot_take _ _ _ (Nat.le_refl _)] at hm
  have h2 := spot_moved s.data.toList p (q - p)
  rw [show p + (q - p) = q by omega] at h2
  rw [h2]
  exact hm
set_option maxHeartbeats 1000000 in
theorem tokClone (s : ByteArray) (hs : s.size ≤ 100000) (w : World) :
    Calls Tryd.prog 42 #[.string s] w fun e w' => e = .returned (.string s) ∧ Below w.heap.size w w' := by
  have q1 := fun w => Tryd.stringslite_Clone s w (by omega)
  go_enter Tryd.func42, Tryd.ntmps42
  go_wp2_with fail
  refine (q1 _).mono ?_
  rintro e w2 ⟨rfl, hb⟩
  go_wp2_with fail
  go_ret
  exact ⟨rfl, hb⟩
end Go.Proofs.YthlpldmodflmjaaDoor
