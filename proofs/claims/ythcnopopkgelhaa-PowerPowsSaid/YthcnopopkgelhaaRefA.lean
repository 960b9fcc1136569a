/- The contracts of the reference's small functions: trim, at, Of. -/
import Derived.Test.YthcnopopkgelhaaWords
import Derived.Deep.LoopGhost
namespace Go.Proofs.Ythcnopopkgelhaa
open Go.RowKit

/-- A number of the reference's: a row of bytes without noughts at its end. -/
def RNum (w : World) (base : Nat) (A : Option Addr) (n c N : Nat) : Prop :=
  ∃ l, Row w w.heap.size .u8 A n l ∧ Dig.Norm l ∧ Dig.Below 256 l ∧ Dig.val 256 l = N ∧ n ≤ c ∧ c ≤ maxLen ∧ ∀ ad, A = some ad → base ≤ ad.block

section
variable {w w' : World} {n c N base : Nat} {A : Option Addr}
theorem RNum.below (h : RNum w base A n c N) (hb : Below w.heap.size w w') : RNum w' base A n c N := by
  obtain ⟨l, h1, h2⟩ := h
  exact ⟨l, (h1.below hb).more hb.size, h2⟩
theorem RNum.alloc (h : RNum w base A n c N) (o : Obj) : RNum (w.alloc o) base A n c N := h.below ((Below.refl _ _).alloc (Nat.le_refl _) o)
theorem RNum.zero (w : World) (base : Nat) : RNum w base none 0 0 0 := ⟨[], Reads.none_, Dig.norm_nil, Dig.Below.nil _, rfl, Nat.le_refl _, by unfold maxLen; omega, fun _ h => by cases h⟩
theorem RNum.mono {base' : Nat} (h : RNum w base A n c N) (hb : base' ≤ base) : RNum w base' A n c N := by
  obtain ⟨l, h1, h2, h3, h4, h5, h6, h7⟩ := h
  exact ⟨l, h1, h2, h3, h4, h5, h6, fun ad ha => Nat.le_trans hb (h7 ad ha)⟩
theorem RNum.setCell (h : RNum w base A n c N) {p : Addr} (hp : p.block < base) (u : Value) : RNum (w.setCell p u) base A n c N := by
  obtain ⟨l, h1, h2, h3, h4, h5, h6, h7⟩ := h
  have e : (w.setCell p u).heap.size = w.heap.size := by simp [World.setCell]
  exact ⟨l, by rw [e]; exact h1.setCell (fun ad ha => by have := h7 ad ha; omega) u, h2, h3, h4, h5, h6, h7⟩
end

theorem nrm_take_succ8 (l : List Nat) (k : Nat) (hk : k < l.length) (h : Dig.at_ l k = 0) : Dig.nrm (l.take (k + 1)) = Dig.nrm (l.take k) := by
  rw [List.take_succ_eq_append_getElem hk]
  rw [Dig.at_lt hk] at h
  rw [h, Dig.nrm_snoc_zero]
theorem nrm_take_stop8 (l : List Nat) (k : Nat) (hk : k < l.length) (h : Dig.at_ l k ≠ 0) : Dig.nrm (l.take (k + 1)) = l.take (k + 1) := by
  rw [List.take_succ_eq_append_getElem hk]
  rw [Dig.at_lt hk] at h
  rw [Dig.nrm_snoc _ _ h]

set_option maxHeartbeats 1000000 in
theorem refTrim (A : Option Addr) (n c : Nat) (l : List Nat) (w : World) (hr : Row w w.heap.size .u8 A n l) (hn : n ≤ 1000000000000) :
    Calls Try.prog 25 #[.slice A n c] w fun e w' => ∃ A' c', e = .returned (.slice A' (Dig.nrm l).length c') ∧ Row w' w'.heap.size .u8 A' (Dig.nrm l).length (Dig.nrm l) ∧ (Dig.nrm l).length ≤ c' ∧ c' ≤ maxLen ∧ (∀ ad, A' = some ad → w.heap.size ≤ ad.block) ∧ Below w.heap.size w w' := by
  obtain ⟨i0, hi0, hz0, hz1, hz2⟩ := info_parts info_u8
  have hl := Lib.hid hr.len
  go_enter Try.func25, Try.ntmps25
  go_wp2_with (first
    | (at_builtin
       refine wpList_append_any _ rfl (.tmp 4) (.tmp 5) _ rfl w.heap.size 5 i0 _ 1 1 Try.underlying26 hi0 hz0 hz1 hz2 rfl (by omega) (.slice none 0 0) 0 [] rfl (World.ownsRow_nil _ _ _ _) w.heap.size A n c (ints .u8 l) rfl hr (ints_oneCell _ _) (by unfold maxLen; omega) (by omega) (Nat.le_refl _) ?_
       intro v1 w1 hown1 hg1 hat1))
  obtain ⟨A1, c1, rfl, hown⟩ := Own.of (k := .u8) (l := l) (by simpa using hown1)
  have hb1 : Below w.heap.size w w1 := (Below.refl _ _).grown hg1 (Nat.le_refl _) (by simp [Value.ownBlock])
  have hcap := hown.cap
  have hrow := hown.row
  have hge := hown.ge
  have hm := hcap.2
  unfold maxLen at hm
  clear hown1 hg1 hat1 hown hr
  have HB := Lib.hid hb1
  have HG := Lib.hid hge
  clear hb1 hge
  go_loop [3] (fun s => ∃ k : Nat, k ≤ n ∧ Hid (Dig.nrm (l.take k) = Dig.nrm l) ∧ s = .slice A1 k c1) (fun s => match s with | .slice _ k _ => k | _ => 0)
  case atStart => exact ⟨n, Nat.le_refl _, by rw [List.take_of_length_le (by have := hl.out; omega)]; rfl, rfl⟩
  case round =>
    obtain ⟨k, hk, hn', rfl⟩ := hrel
    rcases Nat.eq_zero_or_pos k with h0 | h0
    · subst h0
      have hz : Hid (Dig.nrm l = []) := by rw [← hn'.out]; rfl
      go_wp2
      go_ret
      exact ⟨A1, c1, by rw [hz.out]; rfl, by rw [hz.out]; exact hrow.take (Nat.zero_le _), by rw [hz.out]; exact Nat.zero_le _, hcap.2, HG.out, HB.out⟩
    · obtain ⟨j, rfl⟩ : ∃ j, k = j + 1 := ⟨k - 1, by omega⟩
      obtain ⟨ad, hA, hb, hcell⟩ := hrow.at_ (i := j) (by omega)
      subst hA
      by_cases hz : Dig.at_ l j = 0
      · have hcell0 : w1.cell? (ad.add j) = some (.int .u8 0) := by rw [hcell, hz]; rfl
        clear hcell
        have hz' := Lib.hid hz
        have hnx : Hid (Dig.nrm (l.take j) = Dig.nrm l) := by rw [← nrm_take_succ8 l j (by have := hl.out; omega) hz'.out]; exact hn'.out
        clear hz
        go_wp2
        go_round
        case rel => exact ⟨j, by omega, hnx, rfl⟩
        case measure => simp
      · have hz' : (((Dig.at_ l j : Nat) : Int) == 0) = false := by simpa using hz
        have hst : Hid (Dig.nrm l = l.take (j + 1)) := by rw [← hn'.out]; exact nrm_take_stop8 l j (by have := hl.out; omega) hz
        have hlen : Hid ((Dig.nrm l).length = j + 1) := by show _ = _; rw [hst.out, List.length_take]; have := hl.out; omega
        go_wp2
        go_ret
        refine ⟨some ad, c1, by rw [hlen.out]; rfl, ?_, by rw [hlen.out]; omega, hcap.2, HG.out, HB.out⟩
        have := hrow.take (m := j + 1) (by omega)
        rw [← hst.out] at this
        rw [hlen.out]
        exact this

theorem refTrimN (A : Option Addr) (n c : Nat) (l : List Nat) (w : World) (hr : Row w w.heap.size .u8 A n l) (hb : Dig.Below 256 l) (hn : n ≤ 1000000000000) :
    Calls Try.prog 25 #[.slice A n c] w fun e w' => ∃ A' n' c', e = .returned (.slice A' n' c') ∧ RNum w' w.heap.size A' n' c' (Dig.val 256 l) ∧ n' ≤ n ∧ Below w.heap.size w w' := by
  have hl := hr.len
  refine (refTrim A n c l w hr hn).mono ?_
  rintro e w' ⟨A', c', rfl, h1, h2, h3, h4, h5⟩
  exact ⟨A', _, c', rfl, ⟨_, h1, Dig.norm_nrm l, hb.nrm, Dig.val_nrm _ _, h2, h3, h4⟩, by have := Dig.nrm_length_le l; omega, h5⟩

set_option maxHeartbeats 400000 in
theorem refAt (A : Option Addr) (n c i : Nat) (l : List Nat) (w : World) (hr : Row w w.heap.size .u8 A n l) (hb : Dig.Below 256 l) :
    Calls Try.prog 58 #[.slice A n c, .int .i64 i] w fun e w' => e = .returned (.int .i64 ((Dig.at_ l i : Nat) : Int)) ∧ w = w' := by
  by_cases h : i < n
  · obtain ⟨ad, rfl, hadb, hcell⟩ := hr.at_ h
    have hlt := Dig.at_below (by omega) hb i
    have hlt' : ((Dig.at_ l i : Nat) : Int) < 256 := by omega
    go_enter Try.func58, Try.ntmps58
    go_wp2
    go_ret
    exact ⟨rfl, rfl⟩
  · have hz : Hid (((Dig.at_ l i : Nat) : Int) = 0) := by rw [Dig.at_ge (by have := hr.len; omega)]; rfl
    go_enter Try.func58, Try.ntmps58
    go_wp2
    go_ret
    exact ⟨by rw [hz.out]; rfl, rfl⟩
end Go.Proofs.Ythcnopopkgelhaa
