/- Words, names and operators of the landed ast: what its tables must hold; letters, digits, Word, Name, Op's methods, Operator, Keywords. -/
import Derived.Test.YtkmioieanopafaaDoorAstC
namespace Go.Proofs.YtkmioieanopafaaDoor
open Go.RowKit

/-- A table of the program's own: the block of a package variable, whole. -/
def Tab (w : World) (g : Nat) (vs : List Value) : Prop := ∃ t fr, w.heap[g]? = some (.cells vs.toArray t fr)
theorem Tab.step {w w' : World} {g : Nat} {vs : List Value} (h : Tab w g vs) (hb : Below w.heap.size w w') : Tab w' g vs := by
  obtain ⟨t, fr, h⟩ := h
  exact ⟨t, fr, (hb.block g (Array.getElem?_eq_some_iff.1 h).1).trans h⟩
theorem Tab.cell {w : World} {g : Nat} {vs : List Value} (h : Tab w g vs) {i : Nat} {v : Value} (hv : vs[i]? = some v) : w.cell? ⟨g, i, none⟩ = some v := by
  obtain ⟨t, fr, h⟩ := h
  rw [cell_of_row _ _ i vs.toArray t fr h]
  simpa using hv
def aggD (d : TypeDesc) : Bool := match d with | .struct _ | .array _ _ => true | _ => false
theorem Tab.load {w : World} {g : Nat} {vs : List Value} (h : Tab w g vs) (ty : TypeId) (d : TypeDesc) (hu : Tryd.prog.underlying ty = some d) (hd : aggD d = true) (hi : (Tryd.prog.info? ty).map (·.size) = some vs.length) :
    (loadVar ty ⟨g, 0, none⟩).run Tryd.prog w = .ok (.agg vs.toArray) w := by
  obtain ⟨t, fr, h⟩ := h
  exact run_loadVar_row w g t ty vs.toArray fr d h hu (by cases d <;> first | rfl | exact hd) (by simpa using hi)

/-- The tables of words. -/
structure LaidW (w : World) : Prop where
  texts : Tab w 0 (strs ops6)
  keys : Tab w 1 (strs kws6)
  levels : Tab w 2 (lvl6.map fun x => Value.int .i64 x)
theorem LaidW.step {w w' : World} (h : LaidW w) (hb : Below w.heap.size w w') : LaidW w' := ⟨h.texts.step hb, h.keys.step hb, h.levels.step hb⟩

/-- A digit's byte; a letter's; an operator's number. -/
def dgZ (z : Int) : Bool := decide (48 ≤ z ∧ z ≤ 57)
def lrZ (z : Int) : Bool := decide (97 ≤ z ∧ z ≤ 122 ∨ 65 ≤ z ∧ z ≤ 90 ∨ z = 95)
def kn6 (n : Int) : Bool := decide (0 ≤ n ∧ n ≤ 20)

set_option maxHeartbeats 1000000 in
theorem astDigit (z : Int) (w : World) : Calls Tryd.prog 46 #[.int .u8 z] w fun e w' => e = .returned (.bool (dgZ z)) ∧ w' = w := by
  have hc : ¬ 48 ≤ z ∨ (48 ≤ z ∧ z ≤ 57) ∨ (48 ≤ z ∧ ¬ z ≤ 57) := by omega
  rcases hc with h | ⟨h, h2⟩ | ⟨h, h2⟩
  · have hv : Hid (dgZ z = false) := decide_eq_false (by omega)
    go_enter Tryd.func46, Tryd.ntmps46
    go_wp2_with fail
    go_ret
    exact ⟨by rw [hv.out]; first | rfl | simp [*], rfl⟩
  · have hv : Hid (dgZ z = true) := decide_eq_true (by omega)
    go_enter Tryd.func46, Tryd.ntmps46
    go_wp2_with fail
    go_ret
    exact ⟨by rw [hv.out]; first | rfl | simp [*], rfl⟩
  · have hv : Hid (dgZ z = false) := decide_eq_false (by omega)
    go_enter Tryd.func46, Tryd.ntmps46
    go_wp2_with fail
    go_ret
    exact ⟨by rw [hv.out]; first | rfl | simp [*], rfl⟩

set_option maxHeartbeats 1000000 in
theorem astLetter (z : Int) (w : World) : Calls Tryd.prog 47 #[.int .u8 z] w fun e w' => e = .returned (.bool (lrZ z)) ∧ w' = w := by
  have hc : (¬ 97 ≤ z ∧ ¬ 65 ≤ z ∧ ¬ z = 95) ∨ (¬ 97 ≤ z ∧ 65 ≤ z ∧ z ≤ 90) ∨ (¬ 97 ≤ z ∧ 65 ≤ z ∧ ¬ z ≤ 90 ∧ ¬ z = 95) ∨ z = 95 ∨ (97 ≤ z ∧ z ≤ 122) ∨ (97 ≤ z ∧ ¬ z ≤ 122 ∧ 65 ≤ z ∧ ¬ z ≤ 90 ∧ ¬ z = 95) := by omega
  rcases hc with ⟨h, h2, h3⟩ | ⟨h, h2, h3⟩ | ⟨h, h2, h3, h4⟩ | rfl | ⟨h, h2⟩ | ⟨h, h2, h3, h4, h5⟩
  · have hv : Hid (lrZ z = false) := decide_eq_false (by omega)
    have e95 : (z == 95) = false := by simpa using h3
    go_enter Tryd.func47, Tryd.ntmps47
    go_wp2_with fail
    go_ret
    exact ⟨by rw [hv.out]; first | rfl | simp [*], rfl⟩
  · have hv : Hid (lrZ z = true) := decide_eq_true (by omega)
    go_enter Tryd.func47, Tryd.ntmps47
    go_wp2_with fail
    go_ret
    exact ⟨by rw [hv.out]; first | rfl | simp [*], rfl⟩
  · have hv : Hid (lrZ z = false) := decide_eq_false (by omega)
    have e95 : (z == 95) = false := by simpa using h4
    go_enter Tryd.func47, Tryd.ntmps47
    go_wp2_with fail
    go_ret
    exact ⟨by rw [hv.out]; first | rfl | simp [*], rfl⟩
  · go_enter Tryd.func47, Tryd.ntmps47
    go_wp2_with fail
    go_ret
    exact ⟨rfl, rfl⟩
  · have hv : Hid (lrZ z = true) := decide_eq_true (by omega)
    go_enter Tryd.func47, Tryd.ntmps47
    go_wp2_with fail
    go_ret
    exact ⟨by rw [hv.out]; first | rfl | simp [*], rfl⟩
  · have hv : Hid (lrZ z = false) := decide_eq_false (by omega)
    have e95 : (z == 95) = false := by simpa using h5
    go_enter Tryd.func47, Tryd.ntmps47
    go_wp2_with fail
    go_ret
    exact ⟨by rw [hv.out]; first | rfl | simp [*], rfl⟩

set_option maxHeartbeats 1000000 in
theorem astKnown (n : Int) (w : World) : Calls Tryd.prog 44 #[.int .i64 n] w fun e w' => e = .returned (.bool (kn6 n)) ∧ w' = w := by
  have hc : ¬ 0 ≤ n ∨ (0 ≤ n ∧ n ≤ 20) ∨ (0 ≤ n ∧ ¬ n ≤ 20) := by omega
  rcases hc with h | ⟨h, h2⟩ | ⟨h, h2⟩
  · have hv : Hid (kn6 n = false) := decide_eq_false (by omega)
    go_enter Tryd.func44, Tryd.ntmps44
    go_wp2_with fail
    go_ret
    exact ⟨by rw [hv.out]; first | rfl | simp [*], rfl⟩
  · have hv : Hid (kn6 n = true) := decide_eq_true (by omega)
    go_enter Tryd.func44, Tryd.ntmps44
    go_wp2_with fail
    go_ret
    exact ⟨by rw [hv.out]; first | rfl | simp [*], rfl⟩
  · have hv : Hid (kn6 n = false) := decide_eq_false (by omega)
    go_enter Tryd.func44, Tryd.ntmps44
    go_wp2_with fail
    go_ret
    exact ⟨by rw [hv.out]; first | rfl | simp [*], rfl⟩

set_option maxHeartbeats 1000000 in
theorem astOne (n : Int) (w : World) : Calls Tryd.prog 17 #[.int .i64 n] w fun e w' => e = .returned (.bool (one6 n)) ∧ w' = w := by
  have hc : ¬ 18 ≤ n ∨ (18 ≤ n ∧ n ≤ 20) ∨ (18 ≤ n ∧ ¬ n ≤ 20) := by omega
  rcases hc with h | ⟨h, h2⟩ | ⟨h, h2⟩
  · have hv : Hid (one6 n = false) := decide_eq_false (by omega)
    go_enter Tryd.func17, Tryd.ntmps17
    go_wp2_with fail
    go_ret
    exact ⟨by rw [hv.out]; first | rfl | simp [*], rfl⟩
  · have hv : Hid (one6 n = true) := decide_eq_true (by omega)
    go_enter Tryd.func17, Tryd.ntmps17
    go_wp2_with fail
    go_ret
    exact ⟨by rw [hv.out]; first | rfl | simp [*], rfl⟩
  · have hv : Hid (one6 n = false) := decide_eq_false (by omega)
    go_enter Tryd.func17, Tryd.ntmps17
    go_wp2_with fail
    go_ret
    exact ⟨by rw [hv.out]; first | rfl | simp [*], rfl⟩

set_option maxHeartbeats 1000000 in
theorem astText (n : Int) (w : World) (hL : LaidW w) : Calls Tryd.prog 13 #[.int .i64 n] w fun e w' => e = .returned (.string ⟨(txt6 n).toArray⟩) ∧ w' = w := by
  have hq := astKnown n w
  by_cases h : 0 ≤ n ∧ n ≤ 20
  · rw [show kn6 n = true from decide_eq_true h] at hq
    obtain ⟨h, h2⟩ := h
    obtain ⟨k, rfl⟩ : ∃ k : Nat, n = k := ⟨n.toNat, by omega⟩
    have hk : k < 21 := by omega
    have h5 : (k : Int) < 21 := by omega
    have hv : (strs ops6)[k]? = some (.string ⟨(txt6 k).toArray⟩) := by
      unfold txt6
      rw [if_pos (by omega), Int.toNat_natCast, List.getD_eq_getElem?_getD]
      have : k < ops6.length := hk
      simp [strs, List.getElem?_eq_getElem this]
    have hc := hL.texts.cell hv
    clear hv h h2
    generalize (⟨(txt6 k).toArray⟩ : ByteArray) = s at *
    go_enter Tryd.func13, Tryd.ntmps13
    go_wp2_with fail
    refine hq.mono ?_
    rintro e w1 ⟨rfl, rfl⟩
    go_wp2_with fail
    go_ret
    exact ⟨rfl, rfl⟩
  · rw [show kn6 n = false from decide_eq_false h] at hq
    have hv : Hid (txt6 n = []) := if_neg h
    go_enter Tryd.func13, Tryd.ntmps13
    go_wp2_with fail
    refine hq.mono ?_
    rintro e w1 ⟨rfl, rfl⟩
    go_wp2_with fail
    go_ret
    exact ⟨by rw [hv.out]; rfl, rfl⟩

set_option maxHeartbeats 1000000 in
theorem astLevel (n : Int) (w : World) (hL : LaidW w) : Calls Tryd.prog 15 #[.int .i64 n] w fun e w' => e = .returned (.int .i64 (lev6 n)) ∧ w' = w := by
  have hq := astKnown n w
  by_cases h : 0 ≤ n ∧ n ≤ 20
  · rw [show kn6 n = true from decide_eq_true h] at hq
    obtain ⟨h, h2⟩ := h
    obtain ⟨k, rfl⟩ : ∃ k : Nat, n = k := ⟨n.toNat, by omega⟩
    have hk : k < 21 := by omega
    have h5 : (k : Int) < 21 := by omega
    have hv : (lvl6.map fun x => Value.int .i64 x)[k]? = some (.int .i64 (lev6 k)) := by
      unfold lev6
      rw [if_pos (by omega), Int.toNat_natCast, List.getD_eq_getElem?_getD]
      have : k < lvl6.length := hk
      simp [List.getElem?_eq_getElem this]
    have hc := hL.levels.cell hv
    clear hv h h2
    generalize lev6 k = z at *
    go_enter Tryd.func15, Tryd.ntmps15
    go_wp2_with fail
    refine hq.mono ?_
    rintro e w1 ⟨rfl, rfl⟩
    go_wp2_with fail
    go_ret
    exact ⟨rfl, rfl⟩
  · rw [show kn6 n = false from decide_eq_false h] at hq
    have hv : Hid (lev6 n = 0) := if_neg h
    go_enter Tryd.func15, Tryd.ntmps15
    go_wp2_with fail
    refine hq.mono ?_
    rintro e w1 ⟨rfl, rfl⟩
    go_wp2_with fail
    go_ret
    exact ⟨by rw [hv.out]; rfl, rfl⟩
end Go.Proofs.YtkmioieanopafaaDoor
