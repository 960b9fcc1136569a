/- The chapter's examples: works. -/
import Derived.Test.YthcglobehoaocaaDoorDeciK
namespace Go.Proofs.YthcglobehoaocaaDoor
open Go.RowKit

theorem divTen {A : Option Addr} {n c b : Nat} {w : World} (h : Num w b A n c LB) (hn : n ≤ 1000) :
    Calls Tryd.prog 13 #[.agg #[.slice A n c], .int .u64 10] w fun e w' => ∃ A1 n1 c1, e = .returned (.tuple #[.agg #[.slice A1 n1 c1], .int .u64 6, .int .i64 0]) ∧ Num w' w.heap.size A1 n1 c1 1844674407370955161 ∧ n1 ≤ 1 ∧ Below w.heap.size w w' := by
  refine (deciDiv 10 h (by omega) (by unfold LB; omega) (by omega)).mono ?_
  rintro e w' ⟨A1, n1, c1, h1, h2, h3, h4⟩
  have e1 : LB / 10 = 1844674407370955161 := by unfold LB; rfl
  have e2 : LB % 10 = 6 := by unfold LB; rfl
  rw [e1] at h2
  rw [e2] at h1
  refine ⟨A1, n1, c1, h1, h2, ?_, h4⟩
  have := (h2.fit 1).2 (by unfold Fit; rw [show capN 1 = 1 from rfl]; unfold LB; omega)
  exact this
theorem smallTen {A : Option Addr} {n c b : Nat} {w : World} (h : Num w b A n c 1844674407370955161) (hn : n ≤ 1) :
    Calls Tryd.prog 29 #[.agg #[.slice A n c]] w fun e w' => e = .returned (.tuple #[.int .u64 1844674407370955161, .bool true]) ∧ Below w.heap.size w w' := natSmall_yes A n c _ b w h hn
theorem parse007 (w : World) : Calls Tryd.prog 20 #[.string ⟨#[48, 48, 55]⟩, .int .i64 9] w fun e w' => e = .returned (.tuple #[.agg #[.slice none 0 0], .int .i64 20]) ∧ Below w.heap.size w w' :=
  deciParse_no ⟨#[48, 48, 55]⟩ 9 w no007
theorem parseBig (w : World) : Calls Tryd.prog 20 #[.string ⟨#[49, 56, 52, 52, 54, 55, 52, 52, 48, 55, 51, 55, 48, 57, 53, 53, 49, 54, 49, 54]⟩, .int .i64 1] w fun e w' => e = .returned (.tuple #[.agg #[.slice none 0 0], .int .i64 10]) ∧ Below w.heap.size w w' := by
  refine (deciParse_yes ⟨#[49, 56, 52, 52, 54, 55, 52, 52, 48, 55, 51, 55, 48, 57, 53, 53, 49, 54, 49, 54]⟩ 1 w bigCanon (by decide)).mono ?_
  rintro e w' ⟨h1, h2⟩
  have hv : dval (⟨#[49, 56, 52, 52, 54, 55, 52, 52, 48, 55, 51, 55, 48, 57, 53, 53, 49, 54, 49, 54]⟩ : ByteArray).data.toList = LB := bigVal
  rw [hv] at h1
  rcases h1 with ⟨h, _⟩ | ⟨_, h⟩
  · exact absurd h capOne
  · exact ⟨h, h2⟩
theorem wholeMinus (w : World) (hL : Laid w) : Calls Tryd.prog 22 #[.string ⟨#[45, 48]⟩] w fun e w' => e = .returned (.tuple #[.int .i64 0, .int .i64 20]) ∧ Below w.heap.size w w' :=
  parseWhole_no ⟨#[45, 48]⟩ w hL (by decide) minusZero
theorem textBig {A : Option Addr} {n c b : Nat} {w : World} (h : Num w b A n c LB) (hn : n ≤ 1000) :
    Calls Tryd.prog 16 #[.agg #[.slice A n c]] w fun e w' => e = .returned (.string ⟨#[49, 56, 52, 52, 54, 55, 52, 52, 48, 55, 51, 55, 48, 57, 53, 53, 49, 54, 49, 54]⟩) ∧ Below w.heap.size w w' := by
  have := h.text hn
  rw [bigDec] at this
  exact this
theorem digitsBig {A : Option Addr} {n c b : Nat} {w : World} (h : Num w b A n c LB) (hn : n ≤ 1000) :
    Calls Tryd.prog 17 #[.agg #[.slice A n c]] w fun e w' => e = .returned (.int .i64 20) ∧ Below w.heap.size w w' := by
  have := h.digits hn
  rw [bigDigits] at this
  exact this
theorem wholeLow (w : World) (hL : Laid w) : Calls Tryd.prog 18 #[.int .i64 (-9223372036854775808)] w fun e w' => e = .returned (.string ⟨#[45, 57, 50, 50, 51, 51, 55, 50, 48, 51, 54, 56, 53, 52, 55, 55, 53, 56, 48, 56]⟩) ∧ Below w.heap.size w w' := by
  have := deciWhole (-9223372036854775808) (by omega) (by omega) w hL
  rw [lowWhole] at this
  exact this

/-- What stands while the examples are gone through: the number's box. -/
structure Ex (w : World) (g : Nat) (A : Option Addr) (n c : Nat) (W : World) : Prop where
  box : W.cell? ⟨g, 0, none⟩ = some (.slice A n c) ∧ W.frozen? ⟨g, 0, none⟩ = false
  num : Num W w.heap.size A n c LB
  laid : Laid W
  below : Below w.heap.size w W
theorem Ex.step {w W W' : World} {g n c : Nat} {A : Option Addr} (h : Ex w g A n c W) (hb : Below W.heap.size W W') : Ex w g A n c W' :=
  ⟨bcell1 hb h.box.1 h.box.2, h.num.below hb, h.laid.below hb, h.below.trans (hb.mono h.below.size)⟩
theorem Ex.alloc {w W : World} {g n c : Nat} {A : Option Addr} (h : Ex w g A n c W) (o : Obj) : Ex w g A n c (W.alloc o) := h.step ((Below.refl _ _).alloc (Nat.le_refl _) o)

set_option maxHeartbeats 2000000 in
theorem works_any (w : World) (hL : Laid w) : Calls Tryd.prog 8 #[] w fun e w' => e = .returned (.bool true) ∧ Below w.heap.size w w' := by
  have hrow : Row (w.alloc (.cells #[.int .u64 0, .int .u64 1] 23)) (w.alloc (.cells #[.int .u64 0, .int .u64 1] 23)).heap.size .u64 (some ⟨w.heap.size, 0, none⟩) 2 [0, 1] :=
    ⟨by simp [ints], fun _ => ⟨_, rfl, by simp, fun j u hu => by
      match j with
      | 0 => simp [ints] at hu; subst hu; simp [Addr.add]
      | 1 => simp [ints] at hu; subst hu; simp [Addr.add]
      | j + 2 => simp [ints] at hu⟩⟩
  have hval : Hid (Dig.val LB [0, 1] = LB) := by show _ = _; simp [Dig.val]
  go_enter Tryd.func8, Tryd.ntmps8
  go_wp2_with fail
  refine (natLimbs _ 2 2 [0, 1] _ hrow (Dig.Below.cons LB_pos (Dig.Below.cons (by unfold LB; omega) (Dig.Below.nil _))) (Nat.le_refl _) (by unfold maxLen; omega) (by omega)).mono ?_
  rintro e w1 ⟨A1, n1, c1, rfl, hnum1, hn1, hb1⟩
  rw [hval.out] at hnum1
  have hb0 : Below w.heap.size w w1 := ((Below.refl _ _).alloc (Nat.le_refl _) _).trans (hb1.mono (by simp))
  have hx : Ex w w1.heap.size A1 n1 c1 (w1.alloc (.cells #[.slice A1 n1 c1] 26)) :=
    ⟨⟨by simp [go_sem], by simp [go_sem]⟩, (hnum1.alloc _).mono (by simp), (hL.below hb0).below ((Below.refl _ _).alloc (Nat.le_refl _) _), hb0.alloc hb0.size _⟩
  clear hrow hb1 hnum1 hL
  have hc := hx.box.1
  have hf := hx.box.2
  go_wp2_with fail
  generalize w1.alloc (.cells #[.slice A1 n1 c1] 26) = W1 at *
  refine (divTen hx.num (by omega)).mono ?_
  rintro e w2 ⟨A2, n2, c2, rfl, hnum2, hn2, hb2⟩
  have hx2 := hx.step hb2
  clear hx hc hf hb2
  go_wp2_with fail
  refine (smallTen (hnum2.alloc _) hn2).mono ?_
  rintro e w3 ⟨rfl, hb3⟩
  have hx3 := (hx2.alloc _).step hb3
  clear hx2 hnum2 hb3
  go_wp2_with fail
  refine (parse007 _).mono ?_
  rintro e w4 ⟨rfl, hb4⟩
  have hx4 := hx3.step hb4
  clear hx3 hb4
  go_wp2_with fail
  refine (parseBig _).mono ?_
  rintro e w5 ⟨rfl, hb5⟩
  have hx5 := (hx4.alloc _).step hb5
  clear hx4 hb5
  go_wp2_with fail
  refine (wholeMinus _ (hx5.alloc _).laid).mono ?_
  rintro e w6 ⟨rfl, hb6⟩
  have hx6 := (hx5.alloc _).step hb6
  clear hx5 hb6
  have hc6 := hx6.box.1
  have hf6 := hx6.box.2
  go_wp2_with fail
  refine (textBig hx6.num (by omega)).mono ?_
  rintro e w7 ⟨rfl, hb7⟩
  have hx7 := hx6.step hb7
  clear hx6 hb7 hc6 hf6
  have hc7 := hx7.box.1
  have hf7 := hx7.box.2
  go_wp2_with fail
  refine (digitsBig hx7.num (by omega)).mono ?_
  rintro e w8 ⟨rfl, hb8⟩
  have hx8 := hx7.step hb8
  clear hx7 hb8 hc7 hf7
  go_wp2_with fail
  refine (wholeLow _ hx8.laid).mono ?_
  rintro e w9 ⟨rfl, hb9⟩
  have hx9 := hx8.step hb9
  clear hx8 hb9
  go_wp2_with fail
  go_ret
  exact ⟨rfl, hx9.below⟩
end Go.Proofs.YthcglobehoaocaaDoor
