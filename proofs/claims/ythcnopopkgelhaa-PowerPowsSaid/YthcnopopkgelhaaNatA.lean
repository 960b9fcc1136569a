/- The contracts of nat's small functions: trim, Clone, Limbs, Len, All, limb, Small. -/
import Derived.Test.YthcnopopkgelhaaWords
namespace Go.Proofs.Ythcnopopkgelhaa
open Go.RowKit

/-- What trim makes of a slice. -/
def trimV (A : Option Addr) (l : List Nat) (c : Nat) : Value := if Dig.nrm l = [] then .slice none 0 0 else .slice A (Dig.nrm l).length c

theorem nrm_take_succ (l : List Nat) (k : Nat) (hk : k < l.length) (h : Dig.at_ l k = 0) : Dig.nrm (l.take (k + 1)) = Dig.nrm (l.take k) := by
  rw [List.take_succ_eq_append_getElem hk]
  rw [Dig.at_lt hk] at h
  rw [h, Dig.nrm_snoc_zero]
theorem nrm_take_stop (l : List Nat) (k : Nat) (hk : k < l.length) (h : Dig.at_ l k ≠ 0) : Dig.nrm (l.take (k + 1)) = l.take (k + 1) := by
  rw [List.take_succ_eq_append_getElem hk]
  rw [Dig.at_lt hk] at h
  rw [Dig.nrm_snoc _ _ h]
theorem trimV_nil (A : Option Addr) (l : List Nat) (c : Nat) (h : Dig.nrm l = []) : trimV A l c = .slice none 0 0 := by rw [trimV, if_pos h]
theorem trimV_some (A : Option Addr) (l : List Nat) (c k : Nat) (hk : k < l.length) (h : Dig.nrm l = l.take (k + 1)) : trimV A l c = .slice A (k + 1) c := by
  have e : (Dig.nrm l).length = k + 1 := by rw [h, List.length_take]; omega
  rw [trimV, if_neg (by intro h2; rw [h2] at e; simp at e), e]

set_option maxHeartbeats 400000 in
theorem natTrim_any (A : Option Addr) (n c : Nat) (l : List Nat) (w : World) (B : Nat) (hr : Row w B .u64 A n l) (hc : n ≤ c) (hm : c ≤ maxLen) :
    Calls Try.prog 27 #[.slice A n c] w fun e w' => e = .returned (trimV A l c) ∧ w = w' := by
  unfold maxLen at hm
  have hl := Lib.hid hr.len
  go_enter Try.func27, Try.ntmps27
  go_wp2
  go_loop [0] (fun s => ∃ k : Nat, k ≤ n ∧ Hid (Dig.nrm (l.take k) = Dig.nrm l) ∧ s = .slice A k c) (fun s => match s with | .slice _ k _ => k | _ => 0)
  case atStart => exact ⟨n, Nat.le_refl _, by rw [List.take_of_length_le (by have := hl.out; omega)]; rfl, rfl⟩
  case round =>
    obtain ⟨k, hk, hn, rfl⟩ := hrel
    rcases Nat.eq_zero_or_pos k with h0 | h0
    · subst h0
      have hz : Dig.nrm l = [] := by rw [← hn.out]; rfl
      have hv := Lib.hid (trimV_nil A l c hz)
      clear hz
      go_wp2
      go_ret
      exact ⟨by rw [hv.out]; rfl, rfl⟩
    · obtain ⟨j, rfl⟩ : ∃ j, k = j + 1 := ⟨k - 1, by omega⟩
      obtain ⟨ad, hA, hb, hcell⟩ := hr.at_ (i := j) (by omega)
      subst hA
      by_cases hz : Dig.at_ l j = 0
      · have hcell0 : w.cell? (ad.add j) = some (.int .u64 0) := by rw [hcell, hz]; rfl
        clear hcell
        have hz' := Lib.hid hz
        have hnx : Hid (Dig.nrm (l.take j) = Dig.nrm l) := by rw [← nrm_take_succ l j (by have := hl.out; omega) hz'.out]; exact hn.out
        clear hz
        go_wp2
        go_round
        case rel => exact ⟨j, by omega, hnx, rfl⟩
        case measure => simp
      · have hz' : (((Dig.at_ l j : Nat) : Int) == 0) = false := by simpa using hz
        have hv := Lib.hid (trimV_some (some ad) l c j (by have := hl.out; omega) (by rw [← hn.out]; exact nrm_take_stop l j (by have := hl.out; omega) hz))
        go_wp2
        go_ret
        exact ⟨by rw [hv.out]; rfl, rfl⟩

set_option maxHeartbeats 400000 in
theorem natClone_any (A : Option Addr) (n c : Nat) (l : List Nat) (w : World) (hr : Row w w.heap.size .u64 A n l) (hc : n ≤ c) (hm : n * 8 ≤ 140737488355328) :
    Calls Try.prog 26 #[.slice A n c] w fun e w' => ∃ A' c', e = .returned (.slice A' n c') ∧ Own w' w.heap.size 23 .u64 A' n c' l ∧ Below w.heap.size w w' ∧ (A = none → A' = none ∧ c' = 0) := by
  obtain ⟨i0, hi0, hz0, hz1, hz2⟩ := info_parts info_u64
  have he := fun w : World => Lib.run_eql_slice_nil (P := Try.prog) w 22 23 A n c 0 0 Try.underlying22
  rcases A with _ | ad
  · have hn : n = 0 := by
      rcases Nat.eq_zero_or_pos n with h | h
      · exact h
      · obtain ⟨ad, h1, _⟩ := hr.at_ h
        cases h1
    subst hn
    have hl : l = [] := List.eq_nil_of_length_eq_zero hr.len.symm
    subst hl
    go_enter Try.func26, Try.ntmps26
    go_wp2
    go_ret
    exact ⟨_, _, rfl, Own.nil _ _ _ _, Below.refl _ _, fun _ => ⟨rfl, rfl⟩⟩
  · have hr1 : Reads (w.alloc (.cells #[] 23)) w.heap.size 1 (some ad) n (ints .u64 l) := hr.alloc (Nat.le_refl _) _
    have ho := World.ownsRow_made w #[] (e := 23) (size := 1) (base := w.heap.size) 0 (Nat.le_refl _) (by unfold maxLen; omega) rfl
    go_enter Try.func26, Try.ntmps26
    go_wp2_with (first
      | (at_builtin
         refine wpList_append_any _ rfl (.tmp 5) (.tmp 6) _ rfl w.heap.size 23 i0 _ 1 8 Try.underlying22 hi0 hz0 hz1 hz2 rfl (by omega) (.slice (some ⟨w.heap.size, 0, none⟩) 0 0) 0 [] rfl ho w.heap.size (some ad) n c (ints .u64 l) rfl hr1 (ints_oneCell _ _) (by unfold maxLen; omega) (by omega) (by simp) ?_
         intro v1 w1 hown1 hg1 hat1))
    go_ret
    obtain ⟨A', c', rfl, hown⟩ := Own.of (by simpa using hown1)
    refine ⟨_, _, rfl, hown, ((Below.refl _ _).alloc (Nat.le_refl _) _).grown hg1 (by simp) ?_, fun h => by cases h⟩
    intro k hk
    simp [Value.ownBlock] at hk
    omega

theorem natTrim (A : Option Addr) (n c : Nat) (l : List Nat) (w : World) (hr : Row w w.heap.size .u64 A n l) (hc : n ≤ c) (hm : c ≤ maxLen) :
    Calls Try.prog 27 #[.slice A n c] w fun e w' => ∃ A' c', e = .returned (.slice A' (Dig.nrm l).length c') ∧ Row w w.heap.size .u64 A' (Dig.nrm l).length (Dig.nrm l) ∧ (Dig.nrm l).length ≤ c' ∧ c' ≤ maxLen ∧ (Dig.nrm l = [] → A' = none ∧ c' = 0) ∧ (A' = A ∨ A' = none) ∧ w = w' := by
  refine (natTrim_any A n c l w _ hr hc hm).mono ?_
  rintro e w' ⟨rfl, rfl⟩
  have hl := hr.len
  have hle := Dig.nrm_length_le l
  by_cases h : Dig.nrm l = []
  · refine ⟨none, 0, by rw [trimV, if_pos h, h]; rfl, by rw [h]; exact Reads.none_, by rw [h]; simp, by unfold maxLen; omega, fun _ => ⟨rfl, rfl⟩, .inr rfl, rfl⟩
  · have hr' := hr.take (m := (Dig.nrm l).length) (by omega)
    rw [← Dig.nrm_take] at hr'
    exact ⟨A, c, by rw [trimV, if_neg h], hr', by omega, hm, fun h2 => absurd h2 h, .inl rfl, rfl⟩

set_option maxHeartbeats 400000 in
theorem natLimbs_any (A : Option Addr) (n c : Nat) (l : List Nat) (w : World) (hr : Row w w.heap.size .u64 A n l) (hc : n ≤ c) (hm : c ≤ maxLen) (h8 : n * 8 ≤ 140737488355328) :
    Calls Try.prog 8 #[.slice A n c] w fun e w' => ∃ A' c', e = .returned (.agg #[.slice A' (Dig.nrm l).length c']) ∧ Own w' w.heap.size 23 .u64 A' (Dig.nrm l).length c' (Dig.nrm l) ∧ Below w.heap.size w w' ∧ (Dig.nrm l = [] → A' = none ∧ c' = 0) := by
  have hl := Lib.hid hr.len
  have hle := Dig.nrm_length_le l
  have hr1 := fun o => hr.alloc (Nat.le_refl _) o |>.more (Nat.le_succ _)
  go_enter Try.func8, Try.ntmps8
  go_wp2_with fail
  refine (natTrim A n c l _ (by simpa using hr1 _) hc hm).mono ?_
  rintro e w' ⟨A', c', rfl, hr2, hc2, hm2, hz, _, rfl⟩
  go_wp2_with fail
  refine (natClone_any A' _ c' _ _ hr2 hc2 (by have := hl.out; omega)).mono ?_
  rintro e w1 ⟨A1, c1, rfl, hown, hb, hnil⟩
  obtain ⟨hcc, hff⟩ := bcell hb
  have hsz := hb.size
  go_wp2_with fail
  refine bodyPost_ret (v := .agg #[.slice A1 (Dig.nrm l).length c1]) (by simp [results, Try.results8, go_sem, hcc]) rfl ?_
  have hb0 : Below w.heap.size w (w.alloc (.cells #[.slice none 0 0] 29)) := (Below.refl _ _).alloc (Nat.le_refl _) _
  have hs0 : w.heap.size < (w.alloc (.cells #[.slice none 0 0] 29)).heap.size := by simp
  refine ⟨A1, c1, rfl, (hown.setCell (by simp) _).mono (Nat.le_of_lt hs0), (hb0.trans (hb.mono (Nat.le_of_lt hs0))).setCell (Nat.le_refl _) _, fun h => hnil (hz h).1⟩

theorem natLimbs (A : Option Addr) (n c : Nat) (l : List Nat) (w : World) (hr : Row w w.heap.size .u64 A n l) (hb : Dig.Below LB l) (hc : n ≤ c) (hm : c ≤ maxLen) (h8 : n * 8 ≤ 140737488355328) :
    Calls Try.prog 8 #[.slice A n c] w fun e w' => ∃ A' n' c', e = .returned (.agg #[.slice A' n' c']) ∧ Num w' w.heap.size A' n' c' (Dig.val LB l) ∧ n' ≤ n ∧ Below w.heap.size w w' := by
  refine (natLimbs_any A n c l w hr hc hm h8).mono ?_
  rintro e w' ⟨A', c', rfl, hown, hbl, hz⟩
  have hl := hr.len
  refine ⟨A', _, c', rfl, .of_own hown (Dig.norm_nrm l) hb.nrm (Dig.val_nrm LB l) (fun h => hz (List.eq_nil_of_length_eq_zero h)), by have := Dig.nrm_length_le l; omega, hbl⟩

set_option maxHeartbeats 400000 in
theorem natLen (A : Option Addr) (n c : Nat) (w : World) :
    Calls Try.prog 23 #[.agg #[.slice A n c]] w fun e w' => e = .returned (.int .i64 n) ∧ Below w.heap.size w w' := by
  go_enter Try.func23, Try.ntmps23
  go_wp2
  go_ret
  exact ⟨rfl, (Below.refl _ _).alloc (Nat.le_refl _) _⟩

set_option maxHeartbeats 400000 in
theorem natAll (A : Option Addr) (n c : Nat) (l : List Nat) (w : World) (hr : Row w w.heap.size .u64 A n l) (hc : n ≤ c) (h8 : n * 8 ≤ 140737488355328) :
    Calls Try.prog 16 #[.agg #[.slice A n c]] w fun e w' => ∃ A' c', e = .returned (.slice A' n c') ∧ Own w' w.heap.size 23 .u64 A' n c' l ∧ Below w.heap.size w w' ∧ (A = none → A' = none ∧ c' = 0) := by
  have hr1 := fun o => hr.alloc (Nat.le_refl _) o |>.more (Nat.le_succ _)
  go_enter Try.func16, Try.ntmps16
  go_wp2_with fail
  refine (natClone_any A _ c _ _ (by simpa using hr1 _) hc h8).mono ?_
  rintro e w1 ⟨A1, c1, rfl, hown, hb, hnil⟩
  go_wp2_with fail
  go_ret
  have hs0 : w.heap.size < (w.alloc (.cells #[.slice A n c] 29)).heap.size := by simp
  exact ⟨A1, c1, rfl, hown.mono (Nat.le_of_lt hs0), ((Below.refl _ _).alloc (Nat.le_refl _) _).trans (hb.mono (Nat.le_of_lt hs0)), hnil⟩

set_option maxHeartbeats 400000 in
theorem natLimb (A : Option Addr) (n c i : Nat) (l : List Nat) (w : World) (hr : Row w w.heap.size .u64 A n l) :
    Calls Try.prog 51 #[.agg #[.slice A n c], .int .i64 i] w fun e w' => e = .returned (.int .u64 ((Dig.at_ l i : Nat) : Int)) ∧ Below w.heap.size w w' := by
  by_cases h : i < n
  · obtain ⟨ad, rfl, hb, hcell⟩ := (hr.alloc (Nat.le_refl _) (.cells #[.slice A n c] 29)).at_ h
    go_enter Try.func51, Try.ntmps51
    go_wp2
    go_ret
    exact ⟨rfl, (Below.refl _ _).alloc (Nat.le_refl _) _⟩
  · have hz : Hid (((Dig.at_ l i : Nat) : Int) = 0) := by rw [Dig.at_ge (by have := hr.len; omega)]; rfl
    go_enter Try.func51, Try.ntmps51
    go_wp2
    go_ret
    exact ⟨by rw [hz.out]; rfl, (Below.refl _ _).alloc (Nat.le_refl _) _⟩
end Go.Proofs.Ythcnopopkgelhaa
