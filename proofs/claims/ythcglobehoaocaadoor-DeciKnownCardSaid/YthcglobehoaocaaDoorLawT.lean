/- The law DeciTexts. -/
import Derived.Test.YthcglobehoaocaaDoorLawD
import Derived.Test.YthcglobehoaocaaDoorRefI
namespace Go.Proofs.YthcglobehoaocaaDoor
open Go.RowKit

/-- A number in a box of its own, new since the world w. -/
structure Nb (w : World) (g : Nat) (A : Option Addr) (n c N : Nat) (W : World) : Prop where
  box : W.cell? ⟨g, 0, none⟩ = some (.slice A n c) ∧ W.frozen? ⟨g, 0, none⟩ = false
  num : Num W w.heap.size A n c N
theorem Nb.step {w W W' : World} {g n c N : Nat} {A : Option Addr} (h : Nb w g A n c N W) (hb : Below W.heap.size W W') : Nb w g A n c N W' :=
  ⟨bcell1 hb h.box.1 h.box.2, h.num.below hb⟩
theorem Nb.alloc {w W : World} {g n c N : Nat} {A : Option Addr} (h : Nb w g A n c N W) (o : Obj) : Nb w g A n c N (W.alloc o) := h.step ((Below.refl _ _).alloc (Nat.le_refl _) o)
theorem Nb.new {w W : World} {n c N b : Nat} {A : Option Addr} (h : Num W b A n c N) (hb : w.heap.size ≤ b) : Nb w W.heap.size A n c N (W.alloc (.cells #[.slice A n c] 26)) :=
  ⟨⟨by simp [go_sem], by simp [go_sem]⟩, (h.alloc _).mono hb⟩
theorem below_new (W : World) (o : Obj) : Below W.heap.size W (W.alloc o) := (Below.refl _ _).alloc (Nat.le_refl _) o
theorem bthen {w W W' : World} (h : Below w.heap.size w W) (hb : Below W.heap.size W W') : Below w.heap.size w W' := h.trans (hb.mono h.size)

set_option maxHeartbeats 1000000 in
theorem texts_any (A : Option Addr) (n c : Nat) (m : Int) (l : List Nat) (w : World) (hr : Row w w.heap.size .u64 A n l) (bl : Dig.Below LB l) (hL : Laid w) (hn : n ≤ 6) (m0 : -9223372036854775808 ≤ m) (m1 : m ≤ 9223372036854775807) :
    Calls Tryd.prog 4 #[.slice A n c, .int .i64 m] w fun e w' => e = .returned (.bool true) ∧ Below w.heap.size w w' := by
  have hwh := fun w hL => deciWhole m m0 m1 w hL
  have hrw := fun w => refWhole m m0 m1 w
  obtain ⟨sM, hsM⟩ : ∃ sM : ByteArray, sM = ⟨(Lib.itoa m).toArray⟩ := ⟨_, rfl⟩
  rw [← hsM] at hwh hrw
  clear hsM
  obtain ⟨sT, hsT⟩ : ∃ sT : ByteArray, sT = ⟨(Lib.decDigits (Dig.val LB l)).toArray⟩ := ⟨_, rfl⟩
  have hsz : Lib.nDigits (Dig.val LB l) = sT.size := by rw [hsT, size_list, Lib.decDigits_length]
  have HT := Lib.hid hsT
  have HZ := Lib.hid hsz
  have he1 := str_eq sM
  have he2 := str_eq sT
  clear hsT hsz m0 m1
  go_enter Tryd.func4, Tryd.ntmps4
  go_wp2_with fail
  refine (lawOwn A n c l w hr (by omega)).mono ?_
  rintro e w1 ⟨A1, c1, rfl, hown1, hb1⟩
  have hs1 := hb1.size
  go_wp2_with fail
  refine (natLimbs A1 n c1 l w1 hown1.row bl hown1.cap.1 hown1.cap.2 (by omega)).mono ?_
  rintro e w2 ⟨A2, n2, c2, rfl, hnum2, hn2, hb2⟩
  have hs2 := hb2.size
  have hb12 : Below w.heap.size w w2 := bthen hb1 hb2
  have hbW := bthen hb12 (below_new w2 (.cells #[.slice A2 n2 c2] 26))
  have hrow3 := (hr.below hbW).more hbW.size
  have hx := Nb.new (w := w) hnum2 hs1
  have hLW := hL.below hbW
  clear hown1 hnum2 hb1 hb2 hb12 hr
  go_wp2_with fail
  generalize w2.alloc (.cells #[.slice A2 n2 c2] 26) = W at *
  generalize w2.heap.size = g at *
  refine (refOf A n c l W hrow3 bl (by omega)).mono ?_
  rintro e w3 ⟨A3, n3, c3, rfl, hnum3, hn3, hb3⟩
  have hx3 := hx.step hb3
  have hb3' := bthen hbW hb3
  have hL3 := hLW.below hb3
  clear hx hb3 hbW hLW hrow3
  have hq := refText _ hnum3 (by omega)
  rw [← HT.out] at hq
  go_wp2_with fail
  refine hq.mono ?_
  rintro e w4 ⟨rfl, hb4⟩
  have hx4 := hx3.step hb4
  have hb4' := bthen hb3' hb4
  have hL4 := hL3.below hb4
  clear hx3 hb4 hb3' hL3 hq hnum3
  have hc4 := hx4.box.1
  have hf4 := hx4.box.2
  have hq := hx4.num.text (by omega)
  rw [← HT.out] at hq
  go_wp2_with fail
  refine hq.mono ?_
  rintro e w5 ⟨rfl, hb5⟩
  have hx5 := hx4.step hb5
  have hb5' := bthen hb4' hb5
  have hL5 := hL4.below hb5
  clear hx4 hb5 hb4' hL4 hq hc4 hf4
  have hc5 := hx5.box.1
  have hf5 := hx5.box.2
  have hq := hx5.num.digits (by omega)
  rw [HZ.out] at hq
  go_wp2_with fail
  refine hq.mono ?_
  rintro e w6 ⟨rfl, hb6⟩
  have hb6' := bthen hb5' hb6
  have hL6 := hL5.below hb6
  clear hx5 hb6 hb5' hL5 hq hc5 hf5
  go_wp2_with fail
  refine (hwh w6 hL6).mono ?_
  rintro e w7 ⟨rfl, hb7⟩
  have hb7' := bthen hb6' hb7
  have hL7 := hL6.below hb7
  clear hb7 hb6' hL6
  go_wp2_with fail
  refine (hrw w7).mono ?_
  rintro e w8 ⟨rfl, hb8⟩
  have hb8' := bthen hb7' hb8
  have hL8 := hL7.below hb8
  clear hb8 hb7' hL7
  go_wp2_with fail
  refine (works_any w8 hL8).mono ?_
  rintro e w9 ⟨rfl, hb9⟩
  have hb9' := bthen hb8' hb9
  clear hb9 hb8' hL8
  go_wp2_with fail
  go_ret
  exact ⟨rfl, hb9'⟩

set_option maxHeartbeats 400000 in
theorem texts_long (A : Option Addr) (n c : Nat) (m : Int) (w : World) (hL : Laid w) (hm : n ≤ maxLen) (hn : 6 < n) :
    Calls Tryd.prog 4 #[.slice A n c, .int .i64 m] w fun e w' => e = .returned (.bool true) ∧ Below w.heap.size w w' := by
  unfold maxLen at hm
  go_enter Tryd.func4, Tryd.ntmps4
  go_wp2_with fail
  refine (works_any _ hL).mono ?_
  rintro e w1 ⟨rfl, hb1⟩
  go_wp2_with fail
  go_ret
  exact ⟨rfl, hb1⟩
end Go.Proofs.YthcglobehoaocaaDoor
