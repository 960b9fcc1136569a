/- The law DeciDivides. -/
import Derived.Test.YthcglobehoaocaaDoorDeciL
import Derived.Test.YthcglobehoaocaaDoorRefH
import Derived.Test.YthcglobehoaocaaDoorSame
namespace Go.Proofs.YthcglobehoaocaaDoor
open Go.RowKit

set_option maxHeartbeats 400000 in
theorem lawOwn (A : Option Addr) (n c : Nat) (l : List Nat) (w : World) (hr : Row w w.heap.size .u64 A n l) (hm : n * 8 ≤ 140737488355328) :
    Calls Tryd.prog 10 #[.slice A n c] w fun e w' => ∃ A' c', e = .returned (.slice A' n c') ∧ Own w' w.heap.size 23 .u64 A' n c' l ∧ Below w.heap.size w w' := by
  obtain ⟨i0, hi0, hz0, hz1, hz2⟩ := info_parts info_u64
  go_enter Tryd.func10, Tryd.ntmps10
  go_wp2_with (first
    | (at_builtin
       refine wpList_append_any _ rfl (.tmp 4) (.tmp 5) _ rfl w.heap.size 23 i0 _ 1 8 Tryd.underlying22 hi0 hz0 hz1 hz2 rfl (by omega) (.slice none 0 0) 0 [] rfl (World.ownsRow_nil _ _ _ _) w.heap.size A n c (ints .u64 l) rfl hr (ints_oneCell _ _) (by unfold maxLen; omega) (by omega) (Nat.le_refl _) ?_
       intro v1 w1 hown1 hg1 hat1))
  go_ret
  obtain ⟨A', c', rfl, hown⟩ := Own.of (by simpa using hown1)
  exact ⟨_, _, rfl, hown, (Below.refl _ _).grown hg1 (Nat.le_refl _) (by simp [Value.ownBlock])⟩

/-- What stands while DeciDivides' loop runs. -/
structure DL (w : World) (g : Nat) (A : Option Addr) (n c N : Nat) (A2 : Option Addr) (n2 c2 : Nat) (A3 : Option Addr) (n3 c3 Q : Nat) (W : World) : Prop where
  box : W.cell? ⟨g, 0, none⟩ = some (.slice A n c) ∧ W.frozen? ⟨g, 0, none⟩ = false
  num : Num W w.heap.size A n c N
  ref : RNum W w.heap.size A2 n2 c2 N
  quo : RNum W w.heap.size A3 n3 c3 Q
  laid : Laid W
  below : Below w.heap.size w W
theorem DL.step {w W W' : World} {g n c N n2 c2 n3 c3 Q : Nat} {A A2 A3 : Option Addr} (h : DL w g A n c N A2 n2 c2 A3 n3 c3 Q W) (hb : Below W.heap.size W W') : DL w g A n c N A2 n2 c2 A3 n3 c3 Q W' :=
  ⟨bcell1 hb h.box.1 h.box.2, h.num.below hb, h.ref.below hb, h.quo.below hb, h.laid.below hb, h.below.trans (hb.mono h.below.size)⟩

set_option maxHeartbeats 2000000 in
theorem divides_walk (A : Option Addr) (n c : Nat) (yi ri ei : Int) (Q : Nat) (l : List Nat) (w : World) (hr : Row w w.heap.size .u64 A n l) (bl : Dig.Below LB l) (hc : n ≤ c) (hm : c ≤ maxLen) (hL : Laid w) (hn : n ≤ 12)
    (hdiv : ∀ (W : World) (A : Option Addr) (n c b : Nat), Num W b A n c (Dig.val LB l) → n ≤ 12 → Calls Tryd.prog 13 #[.agg #[.slice A n c], .int .u64 yi] W fun e w' => ∃ A1 n1 c1, e = .returned (.tuple #[.agg #[.slice A1 n1 c1], .int .u64 ri, .int .i64 ei]) ∧ Num w' W.heap.size A1 n1 c1 Q ∧ n1 ≤ 12 ∧ Below W.heap.size W w')
    (href : ∀ (W : World) (A : Option Addr) (n c b : Nat), RNum W b A n c (Dig.val LB l) → n ≤ 96 → Calls Tryd.prog 12 #[.slice A n c, .int .u64 yi] W fun e w' => ∃ A1 n1 c1, e = .returned (.tuple #[.slice A1 n1 c1, .int .u64 ri, .int .i64 ei]) ∧ RNum w' W.heap.size A1 n1 c1 Q ∧ Below W.heap.size W w') :
    Calls Tryd.prog 3 #[.slice A n c, .int .u64 yi] w fun e w' => e = .returned (.bool true) ∧ Below w.heap.size w w' := by
  have hce : (ei == ei) = true := by simp
  have hcr : (ri == ri) = true := by simp
  go_enter Tryd.func3, Tryd.ntmps3
  go_wp2_with fail
  refine (lawOwn A n c l w hr (by omega)).mono ?_
  rintro e w1 ⟨A1, c1, rfl, hown1, hb1⟩
  have hs1 := hb1.size
  go_wp2_with fail
  refine (natLimbs A1 n c1 l w1 hown1.row bl hown1.cap.1 hown1.cap.2 (by omega)).mono ?_
  rintro e w2 ⟨A2, n2, c2, rfl, hnum2, hn2, hb2⟩
  have hs2 := hb2.size
  have hb12 : Below w.heap.size w w2 := hb1.trans (hb2.mono hs1)
  have hrow3 : Row (w2.alloc (.cells #[.slice A2 n2 c2] 26)) (w2.alloc (.cells #[.slice A2 n2 c2] 26)).heap.size .u64 A n l :=
    (((hr.below hb12).more hb12.size).alloc (Nat.le_refl _) (.cells #[.slice A2 n2 c2] 26)).more (by simp)
  have hnum3 := hnum2.alloc (.cells #[.slice A2 n2 c2] 26)
  have hb13 : Below w.heap.size w (w2.alloc (.cells #[.slice A2 n2 c2] 26)) := hb12.alloc hb12.size _
  have hbx : (w2.alloc (.cells #[.slice A2 n2 c2] 26)).cell? ⟨w2.heap.size, 0, none⟩ = some (.slice A2 n2 c2) ∧ (w2.alloc (.cells #[.slice A2 n2 c2] 26)).frozen? ⟨w2.heap.size, 0, none⟩ = false := ⟨by simp [go_sem], by simp [go_sem]⟩
  clear hown1 hnum2 hb1 hb2 hb12
  go_wp2_with fail
  generalize w2.alloc (.cells #[.slice A2 n2 c2] 26) = W at *
  refine (refOf A n c l W hrow3 bl (by omega)).mono ?_
  rintro e w3 ⟨A3, n3, c3, rfl, hnum4, hn3, hb3⟩
  go_wp2_with fail
  refine (href w3 A3 n3 c3 _ hnum4 (by omega)).mono ?_
  rintro e w4 ⟨A4, n4, c4, rfl, hnum5, hb4⟩
  have hs3 := hb3.size
  have hs4 := hb4.size
  have hsW := hb13.size
  have hdl : DL w w2.heap.size A2 n2 c2 (Dig.val LB l) A3 n3 c3 A4 n4 c4 Q w4 :=
    ⟨bcell1 hb4 (bcell1 hb3 hbx.1 hbx.2).1 (bcell1 hb3 hbx.1 hbx.2).2, ((hnum3.below hb3).below hb4).mono hs1, (hnum4.below hb4).mono (by omega), hnum5.mono (by omega), ((hL.below hb13).below hb3).below hb4, (hb13.trans (hb3.mono hsW)).trans (hb4.mono (by omega))⟩
  clear hrow3 hnum3 hb13 hbx hnum4 hnum5 hb3 hb4 hL hr bl
  go_wp2_with fail
  go_loopw [10] (fun tv wr => ∃ t : Nat, t ≤ 2 ∧ tv = .int .i64 t ∧ DL w w2.heap.size A2 n2 c2 (Dig.val LB l) A3 n3 c3 A4 n4 c4 Q wr) (fun tv _ => 2 - (intOf tv).toNat)
  case atStart => exact ⟨0, by omega, rfl, hdl⟩
  case round =>
    obtain ⟨t, ht, rfl, hst⟩ := hrel
    clear hdl
    by_cases hlt : t < 2
    · have hcx := hst.box.1
      have hfx := hst.box.2
      go_wp2_with fail
      refine (hdiv _ A2 n2 c2 _ hst.num (by omega)).mono ?_
      rintro e w5 ⟨A5, n5, c5, rfl, hnum5, hn5, hb5⟩
      have hst5 := (hst.step hb5).step ((Below.refl _ _).alloc (Nat.le_refl _) (.cells #[.slice A5 n5 c5] 26))
      have hnum6 := hnum5.alloc (.cells #[.slice A5 n5 c5] 26)
      clear hst hcx hfx hnum5
      go_wp2_with fail
      refine (sameNat hnum6 hst5.quo (by omega)).mono ?_
      rintro e w6 ⟨rfl, hb6⟩
      have hst6 := hst5.step hb6
      have hcx := hst6.box.1
      have hfx := hst6.box.2
      clear hst5 hnum6
      go_wp2_with fail
      refine (sameNat hst6.num hst6.ref (by omega)).mono ?_
      rintro e w7 ⟨rfl, hb7⟩
      have hst7 := hst6.step hb7
      clear hst6 hcx hfx
      go_wp2_with fail
      refine ⟨⟨t + 1, by omega, by go_num, hst7⟩, by simp [intOf]; omega⟩
    · obtain rfl : t = 2 := by omega
      go_wp2_with fail
      refine (works_any _ hst.laid).mono ?_
      rintro e w8 ⟨rfl, hb8⟩
      have hst8 := hst.step hb8
      go_wp2_with fail
      go_ret
      exact ⟨rfl, hst8.below⟩

theorem divides_any (A : Option Addr) (n c y : Nat) (l : List Nat) (w : World) (hr : Row w w.heap.size .u64 A n l) (bl : Dig.Below LB l) (hy : y < LB) (hc : n ≤ c) (hm : c ≤ maxLen) (hL : Laid w) (hn : n ≤ 12) :
    Calls Tryd.prog 3 #[.slice A n c, .int .u64 y] w fun e w' => e = .returned (.bool true) ∧ Below w.heap.size w w' := by
  rcases Nat.eq_zero_or_pos y with h0 | h0
  · subst h0
    exact divides_walk A n c 0 0 2 0 l w hr bl hc hm hL hn
      (fun W A n c b h hn => (deciDiv_zero A n c W).mono fun e w' ⟨h1, h2⟩ => ⟨none, 0, 0, h1, Num.zero _ _, by omega, h2⟩)
      (fun W A n c b h hn => (refDiv_zero A n c W).mono fun e w' ⟨h1, h2⟩ => ⟨none, 0, 0, h1, RNum.zero _ _, h2⟩)
  · exact divides_walk A n c y ((Dig.val LB l % y : Nat) : Int) 0 (Dig.val LB l / y) l w hr bl hc hm hL hn
      (fun W A n c b h hn => (deciDiv y h h0 hy (by omega)).mono fun e w' ⟨A1, n1, c1, h1, h2, h3, h4⟩ => ⟨A1, n1, c1, h1, h2, by omega, h4⟩)
      (fun W A n c b h hn => (refDiv y h h0 hy (by omega)).mono fun e w' ⟨A1, n1, c1, h1, h2, h3, h4⟩ => ⟨A1, n1, c1, h1, h2, h4⟩)
set_option maxHeartbeats 400000 in
theorem divides_long (A : Option Addr) (n c : Nat) (yi : Int) (w : World) (hL : Laid w) (hc : n ≤ c) (hm : c ≤ maxLen) (hn : 12 < n) :
    Calls Tryd.prog 3 #[.slice A n c, .int .u64 yi] w fun e w' => e = .returned (.bool true) ∧ Below w.heap.size w w' := by
  unfold maxLen at hm
  go_enter Tryd.func3, Tryd.ntmps3
  go_wp2_with fail
  refine (works_any _ hL).mono ?_
  rintro e w1 ⟨rfl, hb1⟩
  go_wp2_with fail
  go_ret
  exact ⟨rfl, hb1⟩
end Go.Proofs.YthcglobehoaocaaDoor
