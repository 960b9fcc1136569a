/- The contract of power's climb: from the first power to the one of an exponent, by two steps. -/
import Derived.Test.YthcnopopkgelhaaPowC
import Derived.WalkMore
import Derived.Laws.Bits64b
namespace Go.Proofs.Ythcnopopkgelhaa
open Go.RowKit

/-- The blocks from one on stay as they are. -/
def Above (G : Nat) (W W' : World) : Prop := ∀ i, G ≤ i → i < W.heap.size → W'.heap[i]? = W.heap[i]?

/-- How climb ends. -/
def ClimbEnd (St : Nat → World → Prop) (Good : Nat → Prop) (Bad : World → Prop) (n : Nat) (e : Ending) (w' : World) : Prop :=
  (e = .returned (.bool true) ∧ St n w') ∨ (e = .returned (.bool false) ∧ Bad w' ∧ ∃ k, k ≤ n ∧ ¬ Good k)

/-- The two steps, as climb holds them. -/
def Steps (w : World) (F1 F2 : FuncId) (C1 C2 : Array Value) (W : World) : Prop := W.heap[w.heap.size]? = some (.cells #[.func (.func F1) #[] C1, .func (.func F2) #[] C2] 24 (0, 0))

theorem Steps.at0 {w W : World} {F1 F2 : FuncId} {C1 C2 : Array Value} (h : Steps w F1 F2 C1 C2 W) : W.cell? ⟨w.heap.size, 0, none⟩ = some (.func (.func F1) #[] C1) := by
  rw [cell_of_row W _ 0 #[.func (.func F1) #[] C1, .func (.func F2) #[] C2] _ (0, 0) h]; rfl
theorem Steps.at1 {w W : World} {F1 F2 : FuncId} {C1 C2 : Array Value} (h : Steps w F1 F2 C1 C2 W) : W.cell? ⟨w.heap.size, 1, none⟩ = some (.func (.func F2) #[] C2) := by
  rw [cell_of_row W _ 1 #[.func (.func F1) #[] C1, .func (.func F2) #[] C2] _ (0, 0) h]; rfl
theorem Steps.lt {w W : World} {F1 F2 : FuncId} {C1 C2 : Array Value} (h : Steps w F1 F2 C1 C2 W) : w.heap.size < W.heap.size := by
  rcases Nat.lt_or_ge w.heap.size W.heap.size with hlt | hge
  · exact hlt
  · unfold Steps at h; rw [Array.getElem?_eq_none hge] at h; cases h
theorem Steps.above {w W W' : World} {F1 F2 : FuncId} {C1 C2 : Array Value} (h : Steps w F1 F2 C1 C2 W) (ha : Above w.heap.size W W') : Steps w F1 F2 C1 C2 W' := (ha _ (Nat.le_refl _) h.lt).trans h

theorem and_one {n : Nat} (hn : n < LB) (z : Nat) : bits .and .u64 ((n : Int) / 2 ^ z) 1 = ((n / 2 ^ z % 2 : Nat) : Int) := by
  have h := bits_and_u64_nat (n / 2 ^ z) 1 (Nat.lt_of_le_of_lt (Nat.div_le_self _ _) (by unfold LB at hn; omega)) (by omega)
  rw [Nat.and_one_is_mod] at h
  rw [← h]
  simp

set_option maxHeartbeats 1000000 in
theorem climb (F1 F2 : FuncId) (C1 C2 : Array Value) (n : Nat) (hn : n < LB) (w : World) (St : Nat → World → Prop) (Good : Nat → Prop) (Bad : World → Prop)
    (hF1 : ∀ args w, (callFunc F1 args).run Try.prog w = .ok (.enter F1 args) w) (hF2 : ∀ args w, (callFunc F2 args).run Try.prog w = .ok (.enter F2 args) w)
    (h0 : ∀ o, St 0 (w.alloc o))
    (h1y : ∀ k W, 2 * k ≤ n → St k W → Good (2 * k) → Calls Try.prog F1 C1 W fun e w' => e = .returned (.bool true) ∧ St (2 * k) w' ∧ Above w.heap.size W w')
    (h1n : ∀ k W, 2 * k ≤ n → St k W → ¬ Good (2 * k) → Calls Try.prog F1 C1 W fun e w' => e = .returned (.bool false) ∧ Bad w')
    (h2y : ∀ k W, k + 1 ≤ n → St k W → Good (k + 1) → Calls Try.prog F2 C2 W fun e w' => e = .returned (.bool true) ∧ St (k + 1) w' ∧ Above w.heap.size W w')
    (h2n : ∀ k W, k + 1 ≤ n → St k W → ¬ Good (k + 1) → Calls Try.prog F2 C2 W fun e w' => e = .returned (.bool false) ∧ Bad w') :
    Calls Try.prog 32 #[.int .u64 n, .func (.func F1) #[] C1, .func (.func F2) #[] C2] w fun e w' => ClimbEnd St Good Bad n e w' := by
  have hL := nbits_le64 hn
  have hq := fun w => len64 n hn w
  have hw1 : IntKind.i64.wrap ((nbits n : Int) - 1) = (nbits n : Int) - 1 := IntWalk.i64_in _ (by omega)
  have hSt0 : Hid (St (n / 2 ^ nbits n) (w.alloc (.cells #[.func (.func F1) #[] C1, .func (.func F2) #[] C2] 24))) := by
    rw [Nat.div_eq_of_lt (lt_pow_nbits n)]; exact h0 _
  have hSp0 : Hid (Steps w F1 F2 C1 C2 (w.alloc (.cells #[.func (.func F1) #[] C1, .func (.func F2) #[] C2] 24))) := heap_alloc_new w _
  have H1y := Lib.hid h1y
  have H1n := Lib.hid h1n
  have H2y := Lib.hid h2y
  have H2n := Lib.hid h2n
  clear h1y h1n h2y h2n h0
  go_enter Try.func32, Try.ntmps32
  go_wp2
  go_step3
  go_wp2
  go_step3
  go_wp2_with (first | (go_at_call 52; refine (hq _).mono ?_; rintro e w' ⟨rfl, rfl⟩))
  go_loopg [8, 9] (nbits n) (fun g f p wr => f = .bool true ∧ p = .int .i64 ((g : Int) - 1) ∧ g ≤ nbits n ∧ Hid (St (n / 2 ^ g) wr) ∧ Hid (Steps w F1 F2 C1 C2 wr))
  case atStart => exact ⟨rfl, rfl, Nat.le_refl _, hSt0, hSp0⟩
  case round =>
    obtain ⟨rfl, rfl, hg, hst, hsp⟩ := hrel
    clear hSt0 hSp0
    cases gk with
    | zero =>
      go_wp2
      try rw [Exit.noGoto_ret]
      go_ret
      exact .inl ⟨rfl, by simpa using hst.out⟩
    | succ z =>
      rw [show ((z + 1 : Nat) : Int) - 1 = (z : Int) by omega]
      obtain ⟨k, hk⟩ : ∃ k, k = n / 2 ^ (z + 1) := ⟨_, rfl⟩
      obtain ⟨b, hb⟩ : ∃ b, b = n / 2 ^ z % 2 := ⟨_, rfl⟩
      have hkb : n / 2 ^ z = 2 * k + b := by rw [hk, hb, Nat.pow_succ, ← Nat.div_div_eq_div_mul]; omega
      have hle : 2 * k + b ≤ n := by rw [← hkb]; exact Nat.div_le_self _ _
      have hand := and_one hn z
      rw [← hb] at hand
      rw [← hk] at hst
      have HKB := Lib.hid hkb
      have c0 := hsp.out.at0
      have c1 := hsp.out.at1
      have hb2 : b = 0 ∨ b = 1 := by omega
      clear hkb hk hb
      rcases hb2 with rfl | rfl
      · go_wp2
        go_loopg [8, 30] 1 (fun g2 f i wr => ∃ j : Nat, j + g2 = 1 ∧ f = .bool true ∧ i = .int .i64 j ∧ Hid (St (if j = 0 then k else 2 * k) wr) ∧ Hid (Steps w F1 F2 C1 C2 wr))
        case atStart => exact ⟨0, rfl, rfl, rfl, hst, hsp⟩
        case round =>
          obtain ⟨j, hj, rfl, rfl, hst2, hsp2⟩ := hrel
          have d0 := hsp2.out.at0
          have d1 := hsp2.out.at1
          clear hst hsp c0 c1
          cases gk with
          | zero =>
            obtain rfl : j = 1 := by omega
            go_wp2
            go_roundg z
            case measure => omega
            case rel => exact ⟨rfl, by first | rfl | (congr 1; omega), by omega, by rw [HKB.out]; exact hst2, hsp2⟩
          | succ g =>
            obtain ⟨rfl, rfl⟩ : j = 0 ∧ g = 0 := by omega
            by_cases hgood : Good (2 * k)
            · have hF := H1y.out k wr (by omega) hst2.out hgood
              have hgood := Lib.hid hgood
              go_wp2_with (first | (refine hF.mono ?_; rintro e w2 ⟨rfl, hs2, ha2⟩))
              have hs2 := Lib.hid hs2
              have hsp3 := Lib.hid (hsp2.out.above ha2)
              clear ha2
              go_wp2
              go_roundg 0
              case measure => omega
              case rel => exact ⟨1, rfl, rfl, rfl, hs2, hsp3⟩
            · have hF := H1n.out k wr (by omega) hst2.out hgood
              have hgood := Lib.hid hgood
              go_wp2_with (first | (refine hF.mono ?_; rintro e w2 ⟨rfl, hs2⟩))
              have hs2 := Lib.hid hs2
              go_wp2
              try rw [Exit.noGoto_ret]
              go_ret
              exact .inr ⟨rfl, hs2.out, 2 * k, by omega, hgood.out⟩
      · go_wp2
        go_loopg [8, 30] 2 (fun g2 f i wr => ∃ j : Nat, j + g2 = 2 ∧ f = .bool true ∧ i = .int .i64 j ∧ Hid (St (if j = 0 then k else if j = 1 then 2 * k else 2 * k + 1) wr) ∧ Hid (Steps w F1 F2 C1 C2 wr))
        case atStart => exact ⟨0, rfl, rfl, rfl, hst, hsp⟩
        case round =>
          obtain ⟨j, hj, rfl, rfl, hst2, hsp2⟩ := hrel
          have d0 := hsp2.out.at0
          have d1 := hsp2.out.at1
          clear hst hsp c0 c1
          cases gk with
          | zero =>
            obtain rfl : j = 2 := by omega
            go_wp2
            go_roundg z
            case measure => omega
            case rel => exact ⟨rfl, by first | rfl | (congr 1; omega), by omega, by rw [HKB.out]; exact hst2, hsp2⟩
          | succ g =>
            have hj2 : (j = 0 ∧ g = 1) ∨ (j = 1 ∧ g = 0) := by omega
            clear hj
            rcases hj2 with ⟨rfl, rfl⟩ | ⟨rfl, rfl⟩
            · by_cases hgood : Good (2 * k)
              · have hF := H1y.out k wr (by omega) hst2.out hgood
                have hgood := Lib.hid hgood
                go_wp2_with (first | (refine hF.mono ?_; rintro e w2 ⟨rfl, hs2, ha2⟩))
                have hs2 := Lib.hid hs2
                have hsp3 := Lib.hid (hsp2.out.above ha2)
                clear ha2
                go_wp2
                go_roundg 1
                case measure => omega
                case rel => exact ⟨1, rfl, rfl, rfl, hs2, hsp3⟩
              · have hF := H1n.out k wr (by omega) hst2.out hgood
                have hgood := Lib.hid hgood
                go_wp2_with (first | (refine hF.mono ?_; rintro e w2 ⟨rfl, hs2⟩))
                have hs2 := Lib.hid hs2
                go_wp2
                try rw [Exit.noGoto_ret]
                go_ret
                exact .inr ⟨rfl, hs2.out, 2 * k, by omega, hgood.out⟩
            · by_cases hgood : Good (2 * k + 1)
              · have hF := H2y.out (2 * k) wr (by omega) hst2.out hgood
                have hgood := Lib.hid hgood
                go_wp2_with (first | (refine hF.mono ?_; rintro e w2 ⟨rfl, hs2, ha2⟩))
                have hs2 := Lib.hid hs2
                have hsp3 := Lib.hid (hsp2.out.above ha2)
                clear ha2
                go_wp2
                go_roundg 0
                case measure => omega
                case rel => exact ⟨2, rfl, rfl, rfl, hs2, hsp3⟩
              · have hF := H2n.out (2 * k) wr (by omega) hst2.out hgood
                have hgood := Lib.hid hgood
                go_wp2_with (first | (refine hF.mono ?_; rintro e w2 ⟨rfl, hs2⟩))
                have hs2 := Lib.hid hs2
                go_wp2
                try rw [Exit.noGoto_ret]
                go_ret
                exact .inr ⟨rfl, hs2.out, 2 * k + 1, by omega, hgood.out⟩
end Go.Proofs.Ythcnopopkgelhaa
