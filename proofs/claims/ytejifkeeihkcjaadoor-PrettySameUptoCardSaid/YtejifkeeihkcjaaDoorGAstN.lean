/- Words, names and operators of the landed ast: what its tables must hold; letters, digits, Word, Name, Op's methods, Operator, Keywords. The landed ast's Word, Name, Operator, Keywords. Right trees by the landed ast: numbers, names, operators, all names, expressions. Right expressions by the landed ast. The landed ast's sizes of trees: sum, exprSize, stmtSize, declSize, Size. Right statements, declarations and programs by the landed ast. Texts and trees that are the same: the kit, the library, the landed ast. -/
import Derived.Test.YtejifkeeihkcjaaDoorGAstB
import Derived.Lib.ConvBytes
namespace Go.Proofs.YtejifkeeihkcjaaDoor
section
open Go.RowKit

/-- A table of the program's own: the block of a package variable, whole. -/
def Tab (w : World) (g : Nat) (vs : List Value) : Prop := ∃ t fr, w.heap[g]? = some (.cells vs.toArray t fr)
theorem Tab.step {w w' : World} {g : Nat} {vs : List Value} (h : Tab w g vs) (hb : Below w.heap.size w w') : Tab w' g vs := by
  obtain ⟨t, fr, h⟩ := h
  exact ⟨t, fr, (hb.block g (Array.getElem?_eq_some_iff.1 h).1).trans h⟩
theorem Tab.cell {w : World} {g : Nat} {vs : List Value} (h : Tab w g vs) {i : Nat} {v : Value} (hv : vs[i]? = some v) : w.cell? ⟨g, i, none⟩ = some v := by
  obtain ⟨t, fr, h⟩ := h
  rw [cell_of_row _ _ i vs.toArray t fr h]
  simpa using hv
def aggD (d : TypeDesc) : Bool := match d with | .struct _ | .array _ _ => true | _ => false
theorem Tab.load {w : World} {g : Nat} {vs : List Value} (h : Tab w g vs) (ty : TypeId) (d : TypeDesc) (hu : Tryd.prog.underlying ty = some d) (hd : aggD d = true) (hi : (Tryd.prog.info? ty).map (·.size) = some vs.length) :
    (loadVar ty ⟨g, 0, none⟩).run Tryd.prog w = .ok (.agg vs.toArray) w := by
  obtain ⟨t, fr, h⟩ := h
  exact run_loadVar_row w g t ty vs.toArray fr d h hu (by cases d <;> first | rfl | exact hd) (by simpa using hi)

/-- The tables of words. -/
structure LaidW (w : World) : Prop where
  texts : Tab w 5 (strs ops6)
  keys : Tab w 2 (strs kws6)
  levels : Tab w 4 (lvl6.map fun x => Value.int .i64 x)
theorem LaidW.step {w w' : World} (h : LaidW w) (hb : Below w.heap.size w w') : LaidW w' := ⟨h.texts.step hb, h.keys.step hb, h.levels.step hb⟩

/-- A digit's byte; a letter's; an operator's number. -/
def dgZ (z : Int) : Bool := decide (48 ≤ z ∧ z ≤ 57)
def lrZ (z : Int) : Bool := decide (97 ≤ z ∧ z ≤ 122 ∨ 65 ≤ z ∧ z ≤ 90 ∨ z = 95)
def kn6 (n : Int) : Bool := decide (0 ≤ n ∧ n ≤ 20)

set_option maxHeartbeats 1000000 in
theorem astDigit (z : Int) (w : World) : Calls Tryd.prog 65 #[.int .u8 z] w fun e w' => e = .returned (.bool (dgZ z)) ∧ w' = w := by
  have hc : ¬ 48 ≤ z ∨ (48 ≤ z ∧ z ≤ 57) ∨ (48 ≤ z ∧ ¬ z ≤ 57) := by omega
  rcases hc with h | ⟨h, h2⟩ | ⟨h, h2⟩
  · have hv : Hid (dgZ z = false) := decide_eq_false (by omega)
    go_enter Tryd.func65, Tryd.ntmps65
    go_wp2_with fail
    go_ret
    exact ⟨by rw [hv.out]; first | rfl | simp [*], rfl⟩
  · have hv : Hid (dgZ z = true) := decide_eq_true (by omega)
    go_enter Tryd.func65, Tryd.ntmps65
    go_wp2_with fail
    go_ret
    exact ⟨by rw [hv.out]; first | rfl | simp [*], rfl⟩
  · have hv : Hid (dgZ z = false) := decide_eq_false (by omega)
    go_enter Tryd.func65, Tryd.ntmps65
    go_wp2_with fail
    go_ret
    exact ⟨by rw [hv.out]; first | rfl | simp [*], rfl⟩

set_option maxHeartbeats 1000000 in
theorem astLetter (z : Int) (w : World) : Calls Tryd.prog 66 #[.int .u8 z] w fun e w' => e = .returned (.bool (lrZ z)) ∧ w' = w := by
  have hc : (¬ 97 ≤ z ∧ ¬ 65 ≤ z ∧ ¬ z = 95) ∨ (¬ 97 ≤ z ∧ 65 ≤ z ∧ z ≤ 90) ∨ (¬ 97 ≤ z ∧ 65 ≤ z ∧ ¬ z ≤ 90 ∧ ¬ z = 95) ∨ z = 95 ∨ (97 ≤ z ∧ z ≤ 122) ∨ (97 ≤ z ∧ ¬ z ≤ 122 ∧ 65 ≤ z ∧ ¬ z ≤ 90 ∧ ¬ z = 95) := by omega
  rcases hc with ⟨h, h2, h3⟩ | ⟨h, h2, h3⟩ | ⟨h, h2, h3, h4⟩ | rfl | ⟨h, h2⟩ | ⟨h, h2, h3, h4, h5⟩
  · have hv : Hid (lrZ z = false) := decide_eq_false (by omega)
    have e95 : (z == 95) = false := by simpa using h3
    go_enter Tryd.func66, Tryd.ntmps66
    go_wp2_with fail
    go_ret
    exact ⟨by rw [hv.out]; first | rfl | simp [*], rfl⟩
  · have hv : Hid (lrZ z = true) := decide_eq_true (by omega)
    go_enter Tryd.func66, Tryd.ntmps66
    go_wp2_with fail
    go_ret
    exact ⟨by rw [hv.out]; first | rfl | simp [*], rfl⟩
  · have hv : Hid (lrZ z = false) := decide_eq_false (by omega)
    have e95 : (z == 95) = false := by simpa using h4
    go_enter Tryd.func66, Tryd.ntmps66
    go_wp2_with fail
    go_ret
    exact ⟨by rw [hv.out]; first | rfl | simp [*], rfl⟩
  · go_enter Tryd.func66, Tryd.ntmps66
    go_wp2_with fail
    go_ret
    exact ⟨rfl, rfl⟩
  · have hv : Hid (lrZ z = true) := decide_eq_true (by omega)
    go_enter Tryd.func66, Tryd.ntmps66
    go_wp2_with fail
    go_ret
    exact ⟨by rw [hv.out]; first | rfl | simp [*], rfl⟩
  · have hv : Hid (lrZ z = false) := decide_eq_false (by omega)
    have e95 : (z == 95) = false := by simpa using h5
    go_enter Tryd.func66, Tryd.ntmps66
    go_wp2_with fail
    go_ret
    exact ⟨by rw [hv.out]; first | rfl | simp [*], rfl⟩

set_option maxHeartbeats 1000000 in
theorem astKnown (n : Int) (w : World) : Calls Tryd.prog 63 #[.int .i64 n] w fun e w' => e = .returned (.bool (kn6 n)) ∧ w' = w := by
  have hc : ¬ 0 ≤ n ∨ (0 ≤ n ∧ n ≤ 20) ∨ (0 ≤ n ∧ ¬ n ≤ 20) := by omega
  rcases hc with h | ⟨h, h2⟩ | ⟨h, h2⟩
  · have hv : Hid (kn6 n = false) := decide_eq_false (by omega)
    go_enter Tryd.func63, Tryd.ntmps63
    go_wp2_with fail
    go_ret
    exact ⟨by rw [hv.out]; first | rfl | simp [*], rfl⟩
  · have hv : Hid (kn6 n = true) := decide_eq_true (by omega)
    go_enter Tryd.func63, Tryd.ntmps63
    go_wp2_with fail
    go_ret
    exact ⟨by rw [hv.out]; first | rfl | simp [*], rfl⟩
  · have hv : Hid (kn6 n = false) := decide_eq_false (by omega)
    go_enter Tryd.func63, Tryd.ntmps63
    go_wp2_with fail
    go_ret
    exact ⟨by rw [hv.out]; first | rfl | simp [*], rfl⟩

set_option maxHeartbeats 1000000 in
theorem astOne (n : Int) (w : World) : Calls Tryd.prog 67 #[.int .i64 n] w fun e w' => e = .returned (.bool (one6 n)) ∧ w' = w := by
  have hc : ¬ 18 ≤ n ∨ (18 ≤ n ∧ n ≤ 20) ∨ (18 ≤ n ∧ ¬ n ≤ 20) := by omega
  rcases hc with h | ⟨h, h2⟩ | ⟨h, h2⟩
  · have hv : Hid (one6 n = false) := decide_eq_false (by omega)
    go_enter Tryd.func67, Tryd.ntmps67
    go_wp2_with fail
    go_ret
    exact ⟨by rw [hv.out]; first | rfl | simp [*], rfl⟩
  · have hv : Hid (one6 n = true) := decide_eq_true (by omega)
    go_enter Tryd.func67, Tryd.ntmps67
    go_wp2_with fail
    go_ret
    exact ⟨by rw [hv.out]; first | rfl | simp [*], rfl⟩
  · have hv : Hid (one6 n = false) := decide_eq_false (by omega)
    go_enter Tryd.func67, Tryd.ntmps67
    go_wp2_with fail
    go_ret
    exact ⟨by rw [hv.out]; first | rfl | simp [*], rfl⟩

set_option maxHeartbeats 1000000 in
theorem astText (n : Int) (w : World) (hL : LaidW w) : Calls Tryd.prog 47 #[.int .i64 n] w fun e w' => e = .returned (.string ⟨(txt6 n).toArray⟩) ∧ w' = w := by
  have hq := astKnown n w
  by_cases h : 0 ≤ n ∧ n ≤ 20
  · rw [show kn6 n = true from decide_eq_true h] at hq
    obtain ⟨h, h2⟩ := h
    obtain ⟨k, rfl⟩ : ∃ k : Nat, n = k := ⟨n.toNat, by omega⟩
    have hk : k < 21 := by omega
    have h5 : (k : Int) < 21 := by omega
    have hv : (strs ops6)[k]? = some (.string ⟨(txt6 k).toArray⟩) := by
      unfold txt6
      rw [if_pos (by omega), Int.toNat_natCast, List.getD_eq_getElem?_getD]
      have : k < ops6.length := hk
      simp [strs, List.getElem?_eq_getElem this]
    have hc := hL.texts.cell hv
    clear hv h h2
    generalize (⟨(txt6 k).toArray⟩ : ByteArray) = s at *
    go_enter Tryd.func47, Tryd.ntmps47
    go_wp2_with fail
    refine hq.mono ?_
    rintro e w1 ⟨rfl, rfl⟩
    go_wp2_with fail
    go_ret
    exact ⟨rfl, rfl⟩
  · rw [show kn6 n = false from decide_eq_false h] at hq
    have hv : Hid (txt6 n = []) := if_neg h
    go_enter Tryd.func47, Tryd.ntmps47
    go_wp2_with fail
    refine hq.mono ?_
    rintro e w1 ⟨rfl, rfl⟩
    go_wp2_with fail
    go_ret
    exact ⟨by rw [hv.out]; rfl, rfl⟩

set_option maxHeartbeats 1000000 in
theorem astLevel (n : Int) (w : World) (hL : LaidW w) : Calls Tryd.prog 45 #[.int .i64 n] w fun e w' => e = .returned (.int .i64 (lev6 n)) ∧ w' = w := by
  have hq := astKnown n w
  by_cases h : 0 ≤ n ∧ n ≤ 20
  · rw [show kn6 n = true from decide_eq_true h] at hq
    obtain ⟨h, h2⟩ := h
    obtain ⟨k, rfl⟩ : ∃ k : Nat, n = k := ⟨n.toNat, by omega⟩
    have hk : k < 21 := by omega
    have h5 : (k : Int) < 21 := by omega
    have hv : (lvl6.map fun x => Value.int .i64 x)[k]? = some (.int .i64 (lev6 k)) := by
      unfold lev6
      rw [if_pos (by omega), Int.toNat_natCast, List.getD_eq_getElem?_getD]
      have : k < lvl6.length := hk
      simp [List.getElem?_eq_getElem this]
    have hc := hL.levels.cell hv
    clear hv h h2
    generalize lev6 k = z at *
    go_enter Tryd.func45, Tryd.ntmps45
    go_wp2_with fail
    refine hq.mono ?_
    rintro e w1 ⟨rfl, rfl⟩
    go_wp2_with fail
    go_ret
    exact ⟨rfl, rfl⟩
  · rw [show kn6 n = false from decide_eq_false h] at hq
    have hv : Hid (lev6 n = 0) := if_neg h
    go_enter Tryd.func45, Tryd.ntmps45
    go_wp2_with fail
    refine hq.mono ?_
    rintro e w1 ⟨rfl, rfl⟩
    go_wp2_with fail
    go_ret
    exact ⟨by rw [hv.out]; rfl, rfl⟩
end

section
open Go.RowKit

theorem byteA (s : ByteArray) (i : Nat) (hi : i < s.size) : ∃ c : UInt8, s.data.toList[i]? = some c ∧ s.data.toList.getD i 0 = c := by
  have h : i < s.data.toList.length := by rw [size_len_]; exact hi
  exact ⟨s.data.toList[i], List.getElem?_eq_getElem h, by simp [List.getD, List.getElem?_eq_getElem h]⟩
theorem ltr_Z (c : UInt8) : ltr c = lrZ ((c.toNat : Nat) : Int) := by unfold ltr lrZ; exact decide_eq_decide.2 (by omega)
theorem dgt_Z (c : UInt8) : dgt c = dgZ ((c.toNat : Nat) : Int) := by unfold dgt dgZ; exact decide_eq_decide.2 (by omega)
theorem bytesBelow (w : World) (t : ByteArray) : Below w.heap.size w (Lib.bytesWorld w 5 t) :=
  ⟨rfl, rfl, rfl, by rw [Lib.bytesWorld_size]; omega, fun i hi => Lib.bytesWorld_at_old _ _ _ i hi⟩
/-- The bytes of a text, in memory. -/
theorem bytesTo (s : ByteArray) (w : World) : ∃ W1 C, (Go.convert 9 59 (.string s)).run Tryd.prog w = .ok (.slice (some ⟨w.heap.size, 0, none⟩) s.size C) W1 ∧ Below w.heap.size w W1 ∧ ∀ j c, s.data.toList[j]? = some c → W1.cell? ⟨w.heap.size, j, none⟩ = some (.int .u8 ((c.toNat : Nat) : Int)) := by
  refine ⟨_, _, Lib.run_convert_string_bytes w _ _ 5 s Tryd.underlying9 Tryd.underlying59 Tryd.underlying5, bytesBelow w s, fun j c hc => ?_⟩
  have hj : j < s.size := by rw [← size_len_]; exact (List.getElem?_eq_some_iff.1 hc).1
  rw [Lib.bytesWorld_cell _ _ _ _ hj]
  simp [List.getD, hc]

set_option maxHeartbeats 4000000 in
theorem astWord (s : ByteArray) (hs : s.size ≤ 4611686018427387904) (w : World) : Calls Tryd.prog 56 #[.string s] w fun e w' => e = .returned (.bool (word6 s.data.toList)) ∧ Below w.heap.size w w' := by
  obtain ⟨b, hb⟩ : ∃ b, b = word6 s.data.toList := ⟨_, rfl⟩
  rw [← hb]
  have HB := Lib.hid hb
  have hl := Lib.hid (size_len_ s)
  clear hb
  by_cases h0 : s.size = 0
  · have he : s = ⟨#[]⟩ := by
      obtain ⟨d⟩ := s
      have : d = #[] := by simpa [ByteArray.size] using h0
      rw [this]
    have hv : b = false := by rw [HB.out, he]; rfl
    subst hv
    clear hs hl HB h0
    subst he
    go_enter Tryd.func56, Tryd.ntmps56
    go_wp2_with fail
    go_ret
    exact ⟨rfl, Below.refl _ _⟩
  have hne : (s.toList == (⟨#[]⟩ : ByteArray).toList) = false := by
    simp only [beq_eq_false_iff_ne, ne_eq, ByteArray.toList_eq]
    intro h
    apply h0
    rw [← hl.out, h]
    rfl
  have hne2 : (s.toList == []) = false := by simpa using hne
  by_cases h1 : 32 < s.size
  · have h1' : (32 : Int) < s.size := by omega
    have hv : b = false := by
      rw [HB.out]; unfold word6
      rw [decide_eq_false (by rw [hl.out]; omega)]
      simp
    subst hv
    clear HB
    go_enter Tryd.func56, Tryd.ntmps56
    go_wp2_with fail
    go_ret
    exact ⟨rfl, Below.refl _ _⟩
  obtain ⟨c, hc, hidx⟩ := byte6 s 0 (by omega)
  have h1' : ¬ (32 : Int) < s.size := by omega
  have h1'' : (s.size : Int) ≤ 32 := by omega
  have hidx0 : ∀ w, (Go.Instr.index 9 (.string s) (.int .i64 0)).run Tryd.prog w = .ok (.int .u8 ((c.toNat : Nat) : Int)) w := hidx
  clear hidx
  have hq := astDigit ((c.toNat : Nat) : Int) w
  cases hd : dgZ ((c.toNat : Nat) : Int) with
  | true =>
    rw [hd] at hq
    have hv : b = false := by
      rw [HB.out, Bool.eq_false_iff]
      intro h
      rcases ((isWordB_iff _).1 (Bool.and_eq_true_iff.1 h).1).2 0 (by rw [hl.out]; omega) c hc with h2 | h2
      · rw [ltr_Z] at h2
        unfold dgZ at hd
        unfold lrZ at h2
        simp only [decide_eq_true_eq] at hd h2
        omega
      · exact h2.1 rfl
    subst hv
    clear HB hc hd h1
    generalize ((c.toNat : Nat) : Int) = z at *
    go_enter Tryd.func56, Tryd.ntmps56
    go_wp2_with fail
    refine hq.mono ?_
    rintro e w1 ⟨rfl, rfl⟩
    go_wp2_with fail
    go_ret
    exact ⟨rfl, Below.refl _ _⟩
  | false =>
    rw [hd] at hq
    have hfirst : Hid (dgt c = false) := by show dgt c = false; rw [dgt_Z, hd]
    have hc0 := Lib.hid hc
    clear hc hd
    obtain ⟨W1, C, hconv, hbel, hcell⟩ := bytesTo s w
    have HB1 := Lib.hid (And.intro hbel hcell)
    clear hbel hcell
    generalize ((c.toNat : Nat) : Int) = z0 at hidx0 hq
    go_enter Tryd.func56, Tryd.ntmps56
    go_wp2_with fail
    refine hq.mono ?_
    rintro e w1 ⟨rfl, rfl⟩
    clear hq hidx0
    go_wp2_with fail
    have hsz := HB1.out.1.size
    go_loopw [20] (fun v W => ∃ i : Nat, i ≤ s.size ∧ v = .int .i64 i ∧ Hid (∀ j, j < i → ∀ c, s.data.toList[j]? = some c → ltr c = true ∨ dgt c = true) ∧ W = W1) (fun v _ => s.size - (intOf v).toNat)
    case atStart => exact ⟨0, by omega, rfl, fun j hj => absurd hj (by omega), rfl⟩
    case round =>
      obtain ⟨i, hi, rfl, hst, rfl⟩ := hrel
      by_cases hlt : i < s.size
      · have hlt' : (i : Int) < s.size := by omega
        obtain ⟨d, hd, -⟩ := byteA s i hlt
        have hcd := HB1.out.2 i d hd
        have q1 := astLetter ((d.toNat : Nat) : Int) wr
        have q2 := astDigit ((d.toNat : Nat) : Int) wr
        rw [← ltr_Z] at q1
        rw [← dgt_Z] at q2
        have HD := Lib.hid hd
        have HN : Hid ((ltr d = true ∨ dgt d = true) → Hid (∀ j, j < i + 1 → ∀ c, s.data.toList[j]? = some c → ltr c = true ∨ dgt c = true)) := fun h0 j hj e hej => by
          rcases Nat.lt_or_ge j i with h | h
          · exact hst.out j h e hej
          · obtain rfl : j = i := by omega
            have := HD.out.symm.trans hej
            injection this with this
            rw [← this]
            exact h0
        have HS : Hid (ltr d = false → dgt d = false → Hid (b = false)) := fun h1 h2 => by
          show b = false
          rw [HB.out, Bool.eq_false_iff]
          intro h
          rcases ((isWordB_iff _).1 (Bool.and_eq_true_iff.1 h).1).2 i (by rw [hl.out]; exact hlt) d HD.out with h3 | h3
          · rw [h1] at h3; cases h3
          · rw [h2] at h3; cases h3.2
        clear hd HD hst HB hconv
        generalize ((d.toNat : Nat) : Int) = z at *
        go_wp2_with fail
        refine q1.mono ?_
        rintro e w1 ⟨rfl, rfl⟩
        clear q1
        cases hl1 : ltr d with
        | true =>
          have hn := HN.out (.inl hl1)
          clear HN HS q2
          go_wp2_with fail
          exact ⟨⟨i + 1, by omega, by go_num, hn, by first | rfl | trivial⟩, by simp [intOf]; omega⟩
        | false =>
          go_wp2_with fail
          refine q2.mono ?_
          rintro e w1 ⟨rfl, rfl⟩
          clear q2
          cases hd1 : dgt d with
          | true =>
            have hn := HN.out (.inr hd1)
            clear HN HS
            go_wp2_with fail
            exact ⟨⟨i + 1, by omega, by go_num, hn, by first | rfl | trivial⟩, by simp [intOf]; omega⟩
          | false =>
            have hv := HS.out hl1 hd1
            clear HN HS
            go_wp2_with fail
            go_ret
            exact ⟨by rw [hv.out]; rfl, HB1.out.1⟩
      · obtain rfl : i = s.size := by omega
        have hlt' : ¬ (s.size : Int) < s.size := by omega
        have hv : Hid (b = true) := by
          show b = true
          rw [HB.out]
          unfold word6
          rw [decide_eq_true (by rw [hl.out]; omega), Bool.and_true, isWordB_iff]
          refine ⟨fun e => by have := hl.out; rw [e] at this; simp at this; omega, fun j hj e he => ?_⟩
          rcases hst.out j (by rw [← hl.out]; exact hj) e he with h | h
          · exact .inl h
          · refine .inr ⟨fun hj0 => ?_, h⟩
            subst hj0
            have := hc0.out.symm.trans he
            injection this with this
            rw [← this, hfirst.out] at h
            cases h
        clear HB hst
        go_wp2_with fail
        go_ret
        exact ⟨by rw [hv.out]; rfl, HB1.out.1⟩

/-- An array of texts at a place. -/
theorem idxText (n : Nat) (t : TypeId) (hu : Tryd.prog.underlying t = some (.array n 9)) (cs : Array Value) (i : Nat) (v : Value) (hi : i < n) (hv : cs[i]? = some v) (w : World) : (Go.Instr.index t (.agg cs) (.int .i64 (i : Int))).run Tryd.prog w = .ok v w := by
  have h1 : 0 ≤ (i : Int) ∧ (i : Int) < n := by omega
  simp [Instr.index, run_underlying hu, asIntOf, go_sem, part, hi, hv]

set_option maxHeartbeats 4000000 in
set_option maxRecDepth 100000 in
theorem astName (s : List UInt8) (hs : s.length ≤ 4611686018427387904) (w : World) (hL : LaidW w) : Calls Tryd.prog 33 #[.string ⟨s.toArray⟩] w fun e w' => e = .returned (.bool (name6 s)) ∧ Below w.heap.size w w' := by
  have hq := Lib.hid (fun w => astWord ⟨s.toArray⟩ (by simpa [ByteArray.size] using hs) w)
  obtain ⟨b, hb⟩ : ∃ b, b = name6 s := ⟨_, rfl⟩
  rw [← hb]
  have HB := Lib.hid hb
  clear hb
  obtain ⟨tt, fr, hT0⟩ := hL.keys
  obtain ⟨V, hV⟩ : ∃ V, V = (strs kws6).toArray := ⟨_, rfl⟩
  rw [← hV] at hT0
  replace hV := Lib.hid hV
  have hsz : (Tryd.prog.info? 97).map (·.size) = some V.size := by rw [hV.out]; kernel_rfl
  go_enter Tryd.func33, Tryd.ntmps33
  go_wp2_with (refine wpList_load_row rfl 97 (.global 2) rfl 2 rfl tt V fr _ hT0 Tryd.underlying97 rfl hsz ?_)
  obtain ⟨ss, hss⟩ : ∃ x : ByteArray, x = ⟨s.toArray⟩ := ⟨_, rfl⟩
  rw [← hss]
  have HSS := Lib.hid hss
  clear hss
  go_loopw [6] (fun v W => ∃ i : Nat, i ≤ 13 ∧ v = .int .i64 i ∧ Hid (∀ j : Nat, j < i → ∀ k, kws6[j]? = some k → k ≠ s) ∧ W = w) (fun v _ => 13 - (intOf v).toNat)
  case atStart => exact ⟨0, by omega, rfl, fun j hj => absurd hj (by omega), rfl⟩
  case round =>
    obtain ⟨i, hi, rfl, hst, rfl⟩ := hrel
    by_cases hlt : i < 13
    · have hlt' : (i : Int) < 13 := by omega
      obtain ⟨k, hk⟩ : ∃ k, kws6[i]? = some k := ⟨_, List.getElem?_eq_getElem (show i < kws6.length from hlt)⟩
      have hidx := fun w => idxText 13 97 Tryd.underlying97 V i (.string ⟨k.toArray⟩) hlt (by rw [hV.out]; simp [strs, hk]) w
      have HK := Lib.hid hk
      clear hk
      by_cases he : k = s
      · have hv : Hid (b = false) := by
          show b = false
          rw [HB.out]
          unfold name6
          have : kws6.contains s = true := by
            rw [List.contains_iff_mem]
            exact List.mem_iff_getElem?.2 ⟨i, by rw [HK.out, he]⟩
          rw [this]; simp
        have h2 := eq_texts6 he.symm
        rw [← HSS.out] at h2
        clear he hst HB HK hq
        generalize (⟨k.toArray⟩ : ByteArray) = ks at *
        go_wp2_with fail
        go_ret
        exact ⟨by rw [hv.out]; rfl, Below.refl _ _⟩
      · have h2 := ne_texts6 (fun e => he e.symm : ¬ s = k)
        rw [← HSS.out] at h2
        have hst2 : Hid (∀ j, j < i + 1 → ∀ k, kws6[j]? = some k → k ≠ s) := fun j hj k' hk' => by
          rcases Nat.lt_or_ge j i with h | h
          · exact hst.out j h k' hk'
          · obtain rfl : j = i := by omega
            have := HK.out.symm.trans hk'
            injection this with this
            rw [← this]; exact he
        clear he hst HB HK hq
        generalize (⟨k.toArray⟩ : ByteArray) = ks at *
        go_wp2_with fail
        exact ⟨⟨i + 1, by omega, by go_num, hst2, by first | rfl | trivial⟩, by simp [intOf]; omega⟩
    · obtain rfl : i = 13 := by omega
      have hv : Hid (b = word6 s) := by
        show b = word6 s
        rw [HB.out]
        unfold name6
        have : kws6.contains s = false := by
          rw [Bool.eq_false_iff, ne_eq, List.contains_iff_mem]
          intro hm
          obtain ⟨j, hj⟩ := List.mem_iff_getElem?.1 hm
          exact hst.out j (List.getElem?_eq_some_iff.1 hj).1 s hj rfl
        rw [this]; simp
      have hq1 := hq.out wr
      rw [← HSS.out, ← hv.out] at hq1
      clear hst HB hq hV
      go_wp2_with fail
      refine hq1.mono ?_
      rintro e w1 ⟨rfl, hb1⟩
      go_wp2_with fail
      go_ret
      exact ⟨rfl, hb1⟩
end

section
open Go.RowKit

/-- May a number, a name, an operator stand there? -/
def rnum6 (n : Int) (b : Bool) : Bool := if b then num6 n else decide (n = 0)
def rnam6 (x : List UInt8) (b : Bool) : Bool := if b then name6 x else decide (x = [])
def rop6 (o : Int) (b : Bool) (k : Int) : Bool := if b then kn6 o && (one6 o == decide (k = 1)) else decide (o = 0)

set_option maxHeartbeats 1000000 in
theorem astRNumber (n : Int) (b : Bool) (w : World) : Calls Tryd.prog 34 #[.int .i64 n, .bool b] w fun e w' => e = .returned (.bool (rnum6 n b)) ∧ w' = w := by
  by_cases h0 : n = 0
  · have hv : Hid (rnum6 n b = true) := by show rnum6 n b = true; subst h0; cases b <;> simp [rnum6, num6]
    subst h0
    go_enter Tryd.func34, Tryd.ntmps34
    go_wp2_with fail
    go_ret
    exact ⟨by rw [hv.out]; rfl, rfl⟩
  · have e0 : (n == 0) = false := by simpa using h0
    cases b with
    | false =>
      have hv : Hid (rnum6 n false = false) := by show rnum6 n false = false; simp [rnum6, h0]
      go_enter Tryd.func34, Tryd.ntmps34
      go_wp2_with fail
      go_ret
      exact ⟨by rw [hv.out]; rfl, rfl⟩
    | true =>
      by_cases h1 : 0 < n
      · have hv : Hid (rnum6 n true = true) := by show rnum6 n true = true; simp [rnum6, num6]; omega
        go_enter Tryd.func34, Tryd.ntmps34
        go_wp2_with fail
        go_ret
        exact ⟨by rw [hv.out]; first | rfl | simp [*], rfl⟩
      · by_cases h2 : n = -9223372036854775808
        · have hv : Hid (rnum6 n true = true) := by show rnum6 n true = true; simp [rnum6, num6]; omega
          subst h2
          go_enter Tryd.func34, Tryd.ntmps34
          go_wp2_with fail
          go_ret
          exact ⟨by rw [hv.out]; first | rfl | simp [*], rfl⟩
        · have hv : Hid (rnum6 n true = false) := by show rnum6 n true = false; simp [rnum6, num6]; omega
          have e2 : (n == -9223372036854775808) = false := by simpa using h2
          go_enter Tryd.func34, Tryd.ntmps34
          go_wp2_with fail
          go_ret
          exact ⟨by rw [hv.out]; first | rfl | simp [*], rfl⟩

set_option maxHeartbeats 1000000 in
theorem astRName (x : List UInt8) (b : Bool) (hs : x.length ≤ 4611686018427387904) (w : World) (hL : LaidW w) : Calls Tryd.prog 36 #[.string ⟨x.toArray⟩, .bool b] w fun e w' => e = .returned (.bool (rnam6 x b)) ∧ Below w.heap.size w w' := by
  cases b with
  | true =>
    have hq := astName x hs w hL
    have hv : Hid (rnam6 x true = name6 x) := rfl
    rw [hv.out]
    generalize name6 x = v at *
    go_enter Tryd.func36, Tryd.ntmps36
    go_wp2_with fail
    refine hq.mono ?_
    rintro e w1 ⟨rfl, hb⟩
    go_wp2_with fail
    go_ret
    exact ⟨rfl, hb⟩
  | false =>
    by_cases h : x = []
    · have hv : Hid (rnam6 x false = true) := by show rnam6 x false = true; simp [rnam6, h]
      have e1 := empty_t h
      generalize (⟨x.toArray⟩ : ByteArray) = s at *
      clear h
      go_enter Tryd.func36, Tryd.ntmps36
      go_wp2_with fail
      go_ret
      exact ⟨by rw [hv.out]; rfl, Below.refl _ _⟩
    · have hv : Hid (rnam6 x false = false) := by show rnam6 x false = false; simp [rnam6, h]
      have e1 := empty_f h
      generalize (⟨x.toArray⟩ : ByteArray) = s at *
      clear h
      go_enter Tryd.func36, Tryd.ntmps36
      go_wp2_with fail
      go_ret
      exact ⟨by rw [hv.out]; rfl, Below.refl _ _⟩

set_option maxHeartbeats 1000000 in
theorem astROp (o : Int) (b : Bool) (k : Int) (w : World) : Calls Tryd.prog 57 #[.int .i64 o, .bool b, .int .i64 k] w fun e w' => e = .returned (.bool (rop6 o b k)) ∧ w' = w := by
  cases b with
  | true =>
    have q1 := astKnown o w
    have q2 := astOne o w
    cases h1 : kn6 o with
    | false =>
      have hv : Hid (rop6 o true k = false) := by show rop6 o true k = false; simp [rop6, h1]
      rw [h1] at q1
      go_enter Tryd.func57, Tryd.ntmps57
      go_wp2_with fail
      refine q1.mono ?_
      rintro e w1 ⟨rfl, rfl⟩
      go_wp2_with fail
      go_ret
      exact ⟨by rw [hv.out]; rfl, rfl⟩
    | true =>
      have hv : Hid (rop6 o true k = (one6 o == decide (k = 1))) := by show rop6 o true k = (one6 o == decide (k = 1)); simp [rop6, h1]
      have hv2 : Hid (rop6 o true k = (one6 o == (k == 1))) := by show rop6 o true k = (one6 o == (k == 1)); rw [hv.out]; congr 1
      rw [h1] at q1
      rw [hv2.out]
      generalize one6 o = v at *
      obtain ⟨u, hu⟩ : ∃ u, u = (k == 1) := ⟨_, rfl⟩
      rw [← hu]
      have hu2 : (k == 1) = u := hu.symm
      clear hu hv hv2 h1
      obtain ⟨r, hr⟩ : ∃ r, r = (v == u) := ⟨_, rfl⟩
      rw [← hr]
      have hr2 : (v == u) = r := hr.symm
      clear hr
      go_enter Tryd.func57, Tryd.ntmps57
      go_wp2_with fail
      refine q1.mono ?_
      rintro e w1 ⟨rfl, rfl⟩
      go_wp2_with fail
      refine q2.mono ?_
      rintro e w1 ⟨rfl, rfl⟩
      go_wp2_with fail
      go_ret
      exact ⟨rfl, rfl⟩
  | false =>
    by_cases h : o = 0
    · have hv : Hid (rop6 o false k = true) := by show rop6 o false k = true; simp [rop6, h]
      subst h
      go_enter Tryd.func57, Tryd.ntmps57
      go_wp2_with fail
      go_ret
      exact ⟨by rw [hv.out]; rfl, rfl⟩
    · have hv : Hid (rop6 o false k = false) := by show rop6 o false k = false; simp [rop6, h]
      have e0 : (o == 0) = false := by simpa using h
      go_enter Tryd.func57, Tryd.ntmps57
      go_wp2_with fail
      go_ret
      exact ⟨by rw [hv.out]; rfl, rfl⟩

set_option maxHeartbeats 1000000 in
theorem astAllT {A : Option Addr} {n c : Nat} {r : List (List UInt8)} {w : World} (h : RowS w A n r) (hn : pbk r ≤ 4000000) (hL : LaidW w) :
    Calls Tryd.prog 35 #[.slice A n c, .func (.func 33) #[] #[]] w fun e w' => e = .returned (.bool (r.all name6)) ∧ Below w.heap.size w w' := by
  obtain ⟨b, hb⟩ : ∃ b, b = r.all name6 := ⟨_, rfl⟩
  rw [← hb]
  have HB := Lib.hid hb
  clear hb
  have hl := Lib.hid h.len
  have hp := pbk_len r
  have hnn : n ≤ 4000000 := by rw [hl.out]; omega
  have HP := Lib.hid hn
  have HR := Lib.hid h
  have HLD := Lib.hid hL
  clear hp hn h hL
  go_enter Tryd.func35, Tryd.ntmps35
  go_wp2_with fail
  go_loopw [9] (fun v W => ∃ i : Nat, i ≤ n ∧ v = .int .i64 i ∧ Hid (∀ j : Nat, j < i → ∀ t, r[j]? = some t → name6 t = true) ∧ Hid (Below w.heap.size w W)) (fun v _ => n - (intOf v).toNat)
  case atStart => exact ⟨0, by omega, rfl, fun j hj => absurd hj (by omega), Below.refl _ _⟩
  case round =>
    obtain ⟨i, hi, rfl, hst, hbw⟩ := hrel
    by_cases hlt : i < n
    · obtain ⟨ad, t, rfl, ht, hc1⟩ := (HR.out.below hbw.out).at_ hlt
      have hlt' : (i : Int) < n := by omega
      have hq := astName t (by have := pbk_get ht; have := HP.out; omega) wr (HLD.out.step hbw.out)
      have HT := Lib.hid ht
      clear ht
      generalize (⟨t.toArray⟩ : ByteArray) = s at *
      go_wp2_with fail
      refine hq.mono ?_
      rintro e w1 ⟨rfl, hb1⟩
      clear hq
      cases hv : name6 t with
      | true =>
        have hst2 : Hid (∀ j : Nat, j < i + 1 → ∀ t, r[j]? = some t → name6 t = true) := fun j hj t' ht' => by
          rcases Nat.lt_or_ge j i with h | h
          · exact hst.out j h t' ht'
          · obtain rfl : j = i := by omega
            have := HT.out.symm.trans ht'
            injection this with this
            rw [← this]; exact hv
        clear hst hv
        go_wp2_with fail
        exact ⟨⟨i + 1, by omega, by go_num, hst2, bth5 hbw.out hb1⟩, by simp [intOf]; omega⟩
      | false =>
        have hvv : Hid (b = false) := by show b = false; rw [HB.out]; exact all_no HT.out hv
        clear hst hv
        go_wp2_with fail
        go_ret
        exact ⟨by rw [hvv.out]; rfl, bth5 hbw.out hb1⟩
    · obtain rfl : i = n := by omega
      have hlt' : ¬ (i : Int) < i := by omega
      have hvv : Hid (b = true) := by
        show b = true
        rw [HB.out]
        exact all_yes fun j a hj ha => hst.out j (by rw [hl.out]; exact hj) a ha
      clear hst
      go_wp2_with fail
      go_ret
      exact ⟨by rw [hvv.out]; rfl, hbw.out⟩

/-- The table of an expression's parts. -/
def xparts : List Value := [.bool true, .bool false, .bool false, .int .i64 0, .bool false, .bool true, .bool false, .int .i64 0, .bool false, .bool true, .bool false, .int .i64 1, .bool false, .bool false, .bool true, .int .i64 1, .bool false, .bool false, .bool true, .int .i64 2]
def sparts : List Value := [.bool true, .bool false, .bool false, .int .i64 1, .bool true, .bool false, .bool false, .int .i64 2, .bool false, .bool true, .bool true, .int .i64 1, .bool false, .bool true, .bool false, .int .i64 1, .bool false, .bool false, .bool false, .int .i64 1, .bool true, .bool false, .bool false, .int .i64 (-1), .bool false, .bool false, .bool false, .int .i64 0]
def dparts : List Value := [.bool true, .bool false, .bool false, .bool true, .bool false, .bool false, .bool false, .bool false, .bool false, .bool false, .bool true, .bool false, .bool false, .bool false, .bool true]
/-- All tables of the landed ast. -/
structure LaidA (w : World) : Prop where
  words : LaidW w
  x : Tab w 3 xparts
  s : Tab w 1 sparts
  d : Tab w 0 dparts
theorem LaidA.step {w w' : World} (h : LaidA w) (hb : Below w.heap.size w w') : LaidA w' := ⟨h.words.step hb, h.x.step hb, h.s.step hb, h.d.step hb⟩

/-- An expression's row of the table. -/
theorem xrow (w : World) (hL : LaidA w) (n : Int) (x : List UInt8) (o : Int) (m : Nat) (k : Nat) (hk : k < 5) : ∃ (nb nm op : Bool) (ar : Nat), ar < 3 ∧ w.cell? ⟨3, k * 4, none⟩ = some (.bool nb) ∧ w.cell? ⟨3, k * 4 + 1, none⟩ = some (.bool nm) ∧ w.cell? ⟨3, k * 4 + 2, none⟩ = some (.bool op) ∧ w.cell? ⟨3, k * 4 + 3, none⟩ = some (.int .i64 (ar : Int)) ∧ okX (k : Int) n x o m = (rnum6 n nb && (rnam6 x nm && (rop6 o op ar && decide (m = ar)))) := by
  have hn6 : num6 0 = true := by simp [num6]
  obtain rfl | rfl | rfl | rfl | rfl : k = 0 ∨ k = 1 ∨ k = 2 ∨ k = 3 ∨ k = 4 := by omega
  · refine ⟨true, false, false, 0, by omega, hL.x.cell rfl, hL.x.cell rfl, hL.x.cell rfl, hL.x.cell rfl, ?_⟩
    unfold okX rnum6 rnam6 rop6
    rw [Bool.eq_iff_iff]
    simp
    constructor <;> (intro h; simp_all)
  · refine ⟨false, true, false, 0, by omega, hL.x.cell rfl, hL.x.cell rfl, hL.x.cell rfl, hL.x.cell rfl, ?_⟩
    unfold okX rnum6 rnam6 rop6
    rw [Bool.eq_iff_iff]
    simp
    constructor <;> (intro h; simp_all)
  · refine ⟨false, true, false, 1, by omega, hL.x.cell rfl, hL.x.cell rfl, hL.x.cell rfl, hL.x.cell rfl, ?_⟩
    unfold okX rnum6 rnam6 rop6
    rw [Bool.eq_iff_iff]
    simp
    constructor <;> (intro h; simp_all)
  · refine ⟨false, false, true, 1, by omega, hL.x.cell rfl, hL.x.cell rfl, hL.x.cell rfl, hL.x.cell rfl, ?_⟩
    unfold okX rnum6 rnam6 rop6 kn6 one6
    rw [Bool.eq_iff_iff]
    simp
    constructor <;> (intro h; simp_all; try omega)
  · refine ⟨false, false, true, 2, by omega, hL.x.cell rfl, hL.x.cell rfl, hL.x.cell rfl, hL.x.cell rfl, ?_⟩
    unfold okX rnum6 rnam6 rop6 kn6 one6
    rw [Bool.eq_iff_iff]
    simp
    constructor <;> (intro h; simp_all; try omega)
end

section
open Go.RowKit

theorem Box.four {W : World} {g : Nat} {v0 v1 v2 v3 : Value} (h : Box W g [v0, v1, v2, v3]) : W.cell? ⟨g, 0, none⟩ = some v0 ∧ W.cell? ⟨g, 1, none⟩ = some v1 ∧ W.cell? ⟨g, 2, none⟩ = some v2 ∧ W.cell? ⟨g, 3, none⟩ = some v3 :=
  ⟨(h 0 _ rfl).1, (h 1 _ rfl).1, (h 2 _ rfl).1, (h 3 _ rfl).1⟩
/-- What all answers over a row of expressions. -/
def AllXC (es : List XV) : Prop := ∀ (A : Option Addr) (c : Nat) (w : World), LaidA w → XR w A es → Calls Tryd.prog 37 #[.slice A es.length c, .func (.func 38) #[] #[]] w fun e w' => e = .returned (.bool (rgx es)) ∧ Below w.heap.size w w'

/-- The two boxes of a call. -/
def TwoB (w W : World) (vs us : List Value) : Prop := Box W w.heap.size vs ∧ Box W (w.heap.size + 1) us ∧ Below w.heap.size w W
theorem TwoB.new (w : World) (vs us : List Value) (T U : TypeId) : TwoB w ((w.alloc (.cells vs.toArray T)).alloc (.cells us.toArray U)) vs us := by
  refine ⟨(Box.new w vs T).step (bnew5 _ _), ?_, bth5 (bnew5 _ _) (bnew5 _ _)⟩
  have h := Box.new (w.alloc (.cells vs.toArray T)) us U
  rwa [show (w.alloc (.cells vs.toArray T)).heap.size = w.heap.size + 1 by simp] at h
theorem TwoB.step {w W W' : World} {vs us : List Value} (h : TwoB w W vs us) (hb : Below W.heap.size W W') : TwoB w W' vs us := ⟨h.1.step hb, h.2.1.step hb, bth5 h.2.2 hb⟩

theorem rgx1_out {e : XV} (h : ¬ (0 ≤ e.k ∧ e.k ≤ 4)) : rgx1 e = false := by
  rw [rgx1_eq]
  have : okX e.k e.n e.x e.o e.gs.length = false := by
    unfold okX
    rw [decide_eq_false]
    omega
  rw [this, Bool.and_false]

set_option maxHeartbeats 8000000 in
theorem astRX1 (e : XV) (hN : xbk1 e ≤ 4000000) (ih : AllXC e.gs) (A : Option Addr) (c : Nat) (w : World) (hL : LaidA w) (hx : XR w A e.gs) : Calls Tryd.prog 38 #[xval e A c] w fun v w' => v = .returned (.bool (rgx1 e)) ∧ Below w.heap.size w w' := by
  have hb1 := Lib.hid (bnew5 w (.cells #[.int .i64 e.k, .int .i64 e.n, .string ⟨e.x.toArray⟩, .int .i64 e.o, .slice A e.gs.length c, .int .i64 e.l, .int .i64 e.c] 32))
  by_cases hk : 0 ≤ e.k ∧ e.k ≤ 4
  · obtain ⟨k, hk2⟩ : ∃ k : Nat, e.k = k := ⟨e.k.toNat, by omega⟩
    have hk5 : k < 5 := by omega
    obtain ⟨nb, nm, op, ar, har, c0, c1, c2, c3, hok⟩ := xrow w hL e.n e.x e.o e.gs.length k hk5
    have h1 : ¬ (k : Int) < 0 := by omega
    have h2 : ¬ 4 < (k : Int) := by omega
    have h3 : (k : Int) < 5 := by omega
    have hV : Hid (rgx1 e = (rnum6 e.n nb && (rnam6 e.x nm && (rop6 e.o op ar && (decide (e.gs.length = ar) && rgx e.gs))))) := by
      show rgx1 e = _
      rw [rgx1_eq, hk2, hok, Bool.and_comm]
      simp only [Bool.and_assoc]
    rw [hV.out]
    rw [hk2] at hb1
    have K0 := Lib.hid (TwoB.new w [.int .i64 (k : Int), .int .i64 e.n, .string ⟨e.x.toArray⟩, .int .i64 e.o, .slice A e.gs.length c, .int .i64 e.l, .int .i64 e.c] [.bool nb, .bool nm, .bool op, .int .i64 (ar : Int)] 32 98)
    have q1 := fun W => astRNumber e.n nb W
    have q2 := Lib.hid (fun W (h : LaidW W) => astRName e.x nm (by rw [xbk1_eq] at hN; omega) W h)
    have q3 := fun W => astROp e.o op ar W
    have q4 := Lib.hid (fun W (h1 : LaidA W) (h2 : XR W A e.gs) => ih A c W h1 h2)
    have HL := Lib.hid (And.intro hL hx)
    obtain ⟨v1, hv1⟩ : ∃ v, v = rnum6 e.n nb := ⟨_, rfl⟩
    obtain ⟨v2, hv2⟩ : ∃ v, v = rnam6 e.x nm := ⟨_, rfl⟩
    obtain ⟨v3, hv3⟩ : ∃ v, v = rop6 e.o op ar := ⟨_, rfl⟩
    obtain ⟨v5, hv5⟩ : ∃ v, v = rgx e.gs := ⟨_, rfl⟩
    obtain ⟨v4, hv4⟩ : ∃ v, v = decide (e.gs.length = ar) := ⟨_, rfl⟩
    have hm2 : ((e.gs.length : Int) == (ar : Int)) = v4 := by rw [hv4, Bool.eq_iff_iff]; simp only [beq_iff_eq, decide_eq_true_eq]; omega
    rw [← hv1] at q1
    rw [← hv2] at q2
    rw [← hv3] at q3
    rw [← hv5] at q4
    rw [← hv1, ← hv2, ← hv3, ← hv4, ← hv5]
    unfold xval
    rw [hk2]
    have hg5 : 3 < w.heap.size := World.block_lt_of_cell? w _ c0
    clear hv1 hv2 hv3 hv4 hv5 hV hok ih hx hL hk hk2 hN hk5
    go_enter Tryd.func38, Tryd.ntmps38
    go_wp2_with fail
    refine (q1 _).mono ?_
    rintro e1 w1 ⟨rfl, rfl⟩
    clear q1
    cases v1 with
    | false =>
      go_wp2_with fail
      go_ret
      exact ⟨rfl, K0.out.2.2⟩
    | true =>
    have p2 := q2.out _ (HL.out.1.words.step K0.out.2.2)
    go_wp2_with fail
    refine p2.mono ?_
    rintro e1 w2 ⟨rfl, hw2⟩
    have K2 := Lib.hid (K0.out.step hw2)
    clear p2 q2 hw2 K0
    cases v2 with
    | false =>
      go_wp2_with fail
      go_ret
      exact ⟨rfl, K2.out.2.2⟩
    | true =>
    have s0 := K2.out.1.seven
    have s1 := K2.out.2.1.four
    go_wp2_with fail
    refine (q3 _).mono ?_
    rintro e1 w3 ⟨rfl, rfl⟩
    clear q3
    cases v3 with
    | false =>
      go_wp2_with fail
      go_ret
      exact ⟨rfl, K2.out.2.2⟩
    | true =>
    have p4 := q4.out _ (HL.out.1.step K2.out.2.2) (HL.out.2.step K2.out.2.2)
    clear q4
    generalize e.gs.length = m at *
    cases v4 with
    | false =>
      go_wp2_with fail
      go_ret
      exact ⟨rfl, K2.out.2.2⟩
    | true =>
    go_wp2_with fail
    refine p4.mono ?_
    rintro e1 w4 ⟨rfl, hw4⟩
    go_wp2_with fail
    go_ret
    exact ⟨by cases v5 <;> rfl, bth5 K2.out.2.2 hw4⟩
  · rw [rgx1_out hk]
    unfold xval
    generalize e.k = k at *
    rcases (show k < 0 ∨ (¬ k < 0 ∧ 4 < k) by omega) with h | ⟨h, h2⟩
    · go_enter Tryd.func38, Tryd.ntmps38
      go_wp2_with fail
      go_ret
      exact ⟨rfl, hb1.out⟩
    · go_enter Tryd.func38, Tryd.ntmps38
      go_wp2_with fail
      go_ret
      exact ⟨rfl, hb1.out⟩

set_option maxHeartbeats 2000000 in
theorem astAllX (N : Nat) : ∀ (es : List XV), xbk es ≤ N → N ≤ 4000000 → AllXC es := by
  induction N using Nat.strongRecOn with
  | ind N ih =>
  intro es hN hNN A c w hL hx
  have hlen := xbk_len es
  obtain ⟨n, hn⟩ : ∃ n, n = es.length := ⟨_, rfl⟩
  obtain ⟨b, hb⟩ : ∃ b, b = rgx es := ⟨_, rfl⟩
  rw [← hb]
  have HB := Lib.hid hb
  have HX := Lib.hid (And.intro hL hx)
  rw [← hn]
  rw [← hn] at hlen
  have HN := Lib.hid hn
  have IH := Lib.hid ih
  have hnn : n ≤ 4000000 := by omega
  have hS := Lib.hid hN
  clear hn hx ih hL hb hN
  go_enter Tryd.func37, Tryd.ntmps37
  go_wp2_with fail
  go_loopw [9] (fun v W => ∃ i : Nat, i ≤ n ∧ v = .int .i64 i ∧ Hid (∀ j : Nat, j < i → ∀ e, es[j]? = some e → rgx1 e = true) ∧ Hid (Below w.heap.size w W)) (fun v _ => n - (intOf v).toNat)
  case atStart => exact ⟨0, by omega, rfl, fun j hj => absurd hj (by omega), Below.refl _ _⟩
  case round =>
    obtain ⟨i, hi, rfl, hst, hbw⟩ := hrel
    by_cases hlt : i < n
    · have hlt' : (i : Int) < n := by omega
      obtain ⟨ad, e, rfl, he, A1, c1, h0, h1, h2, h3, h4, h5, h6, hx1⟩ := (HX.out.2.step hbw.out).el (i := i) (by rw [← HN.out]; exact hlt)
      have hb1 := Lib.hid (bnew5 wr (.cells #[.int .i64 e.k, .int .i64 e.n, .string ⟨e.x.toArray⟩, .int .i64 e.o, .slice A1 e.gs.length c1, .int .i64 e.l, .int .i64 e.c] 32))
      have hbk := xbk_get he
      have hbk2 := xbk1_eq e
      have hS2 := hS.out
      have hq := astRX1 e (by omega) (IH.out (xbk e.gs) (by omega) e.gs (Nat.le_refl _) (by omega)) A1 c1 _ (HX.out.1.step (bth5 hbw.out hb1.out)) (hx1.step hb1.out)
      have HE := Lib.hid he
      clear he hx1 hbk hbk2 hS2
      unfold xval at hq
      generalize e.gs.length = m at *
      go_wp2_with fail
      refine hq.mono ?_
      rintro v1 w1 ⟨rfl, hw1⟩
      clear hq
      cases hv : rgx1 e with
      | true =>
        have hst2 : Hid (∀ j : Nat, j < i + 1 → ∀ t, es[j]? = some t → rgx1 t = true) := fun j hj t' ht' => by
          rcases Nat.lt_or_ge j i with h | h
          · exact hst.out j h t' ht'
          · obtain rfl : j = i := by omega
            have := HE.out.symm.trans ht'
            injection this with this
            rw [← this]; exact hv
        clear hst hv
        go_wp2_with fail
        exact ⟨⟨i + 1, by omega, by go_num, hst2, bth5 (bth5 hbw.out hb1.out) hw1⟩, by simp [intOf]; omega⟩
      | false =>
        have hvv : Hid (b = false) := by show b = false; rw [HB.out]; exact rgx_no HE.out hv
        clear hst hv
        go_wp2_with fail
        go_ret
        exact ⟨by rw [hvv.out]; rfl, bth5 (bth5 hbw.out hb1.out) hw1⟩
    · obtain rfl : i = n := by omega
      have hlt' : ¬ (i : Int) < i := by omega
      have hvv : Hid (b = true) := by
        show b = true
        rw [HB.out]
        exact rgx_yes fun j a hj ha => hst.out j (by rw [HN.out]; exact hj) a ha
      clear hst
      go_wp2_with fail
      go_ret
      exact ⟨by rw [hvv.out]; rfl, hbw.out⟩
end

section
open Go.RowKit

/-- A statement in a box of its own, its three rows kept while nothing old is turned. -/
structure KS (w W : World) (g : Nat) (s : SV) (A1 : Option Addr) (c1 : Nat) (A2 : Option Addr) (c2 : Nat) (A3 : Option Addr) (c3 : Nat) : Prop where
  b : Below w.heap.size w W
  k : Box W g [.int .i64 s.k, .string ⟨s.x.toArray⟩, .slice A1 s.es.length c1, .slice A2 s.ts.length c2, .slice A3 s.us.length c3, .int .i64 s.l, .int .i64 s.c]
  x : XR W A1 s.es
  t : SR W A2 s.ts
  u : SR W A3 s.us
section
variable {w W W' : World} {g : Nat} {s : SV} {A1 : Option Addr} {c1 : Nat} {A2 : Option Addr} {c2 : Nat} {A3 : Option Addr} {c3 : Nat}
theorem KS.step (h : KS w W g s A1 c1 A2 c2 A3 c3) (hb : Below W.heap.size W W') : KS w W' g s A1 c1 A2 c2 A3 c3 :=
  ⟨bth5 h.b hb, h.k.step hb, h.x.step hb, h.t.step hb, h.u.step hb⟩
theorem KS.rows (h : KS w W g s A1 c1 A2 c2 A3 c3) : W.cell? ⟨g, 2, none⟩ = some (.slice A1 s.es.length c1) ∧ W.cell? ⟨g, 3, none⟩ = some (.slice A2 s.ts.length c2) ∧ W.cell? ⟨g, 4, none⟩ = some (.slice A3 s.us.length c3) :=
  ⟨(h.k 2 _ rfl).1, (h.k 3 _ rfl).1, (h.k 4 _ rfl).1⟩
theorem KS.new (w : World) (s : SV) (hx : XR w A1 s.es) (ht : SR w A2 s.ts) (hu : SR w A3 s.us) : KS w (w.alloc (.cells #[.int .i64 s.k, .string ⟨s.x.toArray⟩, .slice A1 s.es.length c1, .slice A2 s.ts.length c2, .slice A3 s.us.length c3, .int .i64 s.l, .int .i64 s.c] 37)) w.heap.size s A1 c1 A2 c2 A3 c3 :=
  ⟨bnew5 w _, Box.new w [.int .i64 s.k, .string ⟨s.x.toArray⟩, .slice A1 s.es.length c1, .slice A2 s.ts.length c2, .slice A3 s.us.length c3, .int .i64 s.l, .int .i64 s.c] _, hx.step (bnew5 w _), ht.step (bnew5 w _), hu.step (bnew5 w _)⟩
end
end

section
open Go.RowKit

def AllSC (l : List SV) : Prop := ∀ (A : Option Addr) (c : Nat) (w : World), LaidA w → SR w A l → Calls Tryd.prog 19 #[.slice A l.length c, .func (.func 20) #[] #[]] w fun e w' => e = .returned (.bool (rgs l)) ∧ Below w.heap.size w w'

/-- A statement's row of the table; a declaration's. -/
theorem srow (w : World) (hL : LaidA w) (x : List UInt8) (n1 n2 n3 : Nat) (k : Nat) (hk : k < 7) : ∃ (nm th el : Bool) (ex : Int), w.cell? ⟨1, k * 4, none⟩ = some (.bool nm) ∧ w.cell? ⟨1, k * 4 + 1, none⟩ = some (.bool th) ∧ w.cell? ⟨1, k * 4 + 2, none⟩ = some (.bool el) ∧ w.cell? ⟨1, k * 4 + 3, none⟩ = some (.int .i64 ex) ∧ okS (k : Int) x n1 n2 n3 = (rnam6 x nm && (((ex == -1) || ((n1 : Int) == ex)) && ((th || ((n2 : Int) == 0)) && (el || ((n3 : Int) == 0))))) := by
  obtain rfl | rfl | rfl | rfl | rfl | rfl | rfl : k = 0 ∨ k = 1 ∨ k = 2 ∨ k = 3 ∨ k = 4 ∨ k = 5 ∨ k = 6 := by omega
  · refine ⟨true, false, false, 1, hL.s.cell rfl, hL.s.cell rfl, hL.s.cell rfl, hL.s.cell rfl, ?_⟩
    unfold okS rnam6
    rw [Bool.eq_iff_iff]
    simp
    try (intros; first | omega | grind | (simp_all; done))
  · refine ⟨true, false, false, 2, hL.s.cell rfl, hL.s.cell rfl, hL.s.cell rfl, hL.s.cell rfl, ?_⟩
    unfold okS rnam6
    rw [Bool.eq_iff_iff]
    simp
    try (intros; first | omega | grind | (simp_all; done))
  · refine ⟨false, true, true, 1, hL.s.cell rfl, hL.s.cell rfl, hL.s.cell rfl, hL.s.cell rfl, ?_⟩
    unfold okS rnam6
    rw [Bool.eq_iff_iff]
    simp
    try (intros; first | omega | grind | (simp_all; done))
  · refine ⟨false, true, false, 1, hL.s.cell rfl, hL.s.cell rfl, hL.s.cell rfl, hL.s.cell rfl, ?_⟩
    unfold okS rnam6
    rw [Bool.eq_iff_iff]
    simp
    try (intros; first | omega | grind | (simp_all; done))
  · refine ⟨false, false, false, 1, hL.s.cell rfl, hL.s.cell rfl, hL.s.cell rfl, hL.s.cell rfl, ?_⟩
    unfold okS rnam6
    rw [Bool.eq_iff_iff]
    simp
    try (intros; first | omega | grind | (simp_all; done))
  · refine ⟨true, false, false, (-1), hL.s.cell rfl, hL.s.cell rfl, hL.s.cell rfl, hL.s.cell rfl, ?_⟩
    unfold okS rnam6
    rw [Bool.eq_iff_iff]
    simp
    try (intros; first | omega | grind | (simp_all; done))
  · refine ⟨false, false, false, 0, hL.s.cell rfl, hL.s.cell rfl, hL.s.cell rfl, hL.s.cell rfl, ?_⟩
    unfold okS rnam6
    rw [Bool.eq_iff_iff]
    simp
    try (intros; first | omega | grind | (simp_all; done))
theorem drow (w : World) (hL : LaidA w) (x : List UInt8) (lo hi sz : Int) (n1 n2 : Nat) (k : Nat) (hk : k < 5) : ∃ (li si bo : Bool), w.cell? ⟨0, k * 3, none⟩ = some (.bool li) ∧ w.cell? ⟨0, k * 3 + 1, none⟩ = some (.bool si) ∧ w.cell? ⟨0, k * 3 + 2, none⟩ = some (.bool bo) ∧ okD (k : Int) x lo hi sz n1 n2 = (name6 x && (rnum6 sz si && ((li || ((lo == 0) && (hi == 0))) && (bo || (((n1 : Int) == 0) && ((n2 : Int) == 0)))))) := by
  have hn6 : num6 0 = true := by simp [num6]
  obtain rfl | rfl | rfl | rfl | rfl : k = 0 ∨ k = 1 ∨ k = 2 ∨ k = 3 ∨ k = 4 := by omega
  · refine ⟨true, false, false, hL.d.cell rfl, hL.d.cell rfl, hL.d.cell rfl, ?_⟩
    unfold okD rnum6
    rw [Bool.eq_iff_iff]
    simp
    try (intros; first | omega | grind | (simp_all; done))
  · refine ⟨true, false, false, hL.d.cell rfl, hL.d.cell rfl, hL.d.cell rfl, ?_⟩
    unfold okD rnum6
    rw [Bool.eq_iff_iff]
    simp
    try (intros; first | omega | grind | (simp_all; done))
  · refine ⟨false, false, false, hL.d.cell rfl, hL.d.cell rfl, hL.d.cell rfl, ?_⟩
    unfold okD rnum6
    rw [Bool.eq_iff_iff]
    simp
    try (intros; first | omega | grind | (simp_all; done))
  · refine ⟨false, true, false, hL.d.cell rfl, hL.d.cell rfl, hL.d.cell rfl, ?_⟩
    unfold okD rnum6
    rw [Bool.eq_iff_iff]
    simp
    try (intros; first | omega | grind | (simp_all; done))
  · refine ⟨false, false, true, hL.d.cell rfl, hL.d.cell rfl, hL.d.cell rfl, ?_⟩
    unfold okD rnum6
    rw [Bool.eq_iff_iff]
    simp
    try (intros; first | omega | grind | (simp_all; done))
theorem rgs1_out {e : SV} (h : ¬ (0 ≤ e.k ∧ e.k ≤ 6)) : rgs1 e = false := by
  rw [rgs1_eq]
  have : okS e.k e.x e.es.length e.ts.length e.us.length = false := by
    unfold okS
    rw [decide_eq_false]
    omega
  rw [this]; simp
theorem rgd1_out {d : DV} (h : ¬ (0 ≤ d.k ∧ d.k ≤ 4)) : rgd1 d = false := by
  unfold rgd1
  have : okD d.k d.x d.lo d.hi d.sz d.ps.length d.body.length = false := by
    unfold okD
    rw [decide_eq_false]
    omega
  rw [this]; simp

set_option maxHeartbeats 16000000 in
theorem astRS1 (e : SV) (hN : sbk1 e ≤ 4000000) (ih1 : AllSC e.ts) (ih2 : AllSC e.us) (A1 : Option Addr) (c1 : Nat) (A2 : Option Addr) (c2 : Nat) (A3 : Option Addr) (c3 : Nat) (w : World) (hL : LaidA w) (hx1 : XR w A1 e.es) (hx2 : SR w A2 e.ts) (hx3 : SR w A3 e.us) : Calls Tryd.prog 20 #[sval e A1 c1 A2 c2 A3 c3] w fun v w' => v = .returned (.bool (rgs1 e)) ∧ Below w.heap.size w w' := by
  have hb1 := Lib.hid (bnew5 w (.cells #[.int .i64 e.k, .string ⟨e.x.toArray⟩, .slice A1 e.es.length c1, .slice A2 e.ts.length c2, .slice A3 e.us.length c3, .int .i64 e.l, .int .i64 e.c] 37))
  by_cases hk : 0 ≤ e.k ∧ e.k ≤ 6
  · obtain ⟨k, hk2⟩ : ∃ k : Nat, e.k = k := ⟨e.k.toNat, by omega⟩
    have hk5 : k < 7 := by omega
    obtain ⟨nm, th, el, ex, c0, c1', c2', c3', hok⟩ := srow w hL e.x e.es.length e.ts.length e.us.length k hk5
    have h1 : ¬ (k : Int) < 0 := by omega
    have h2 : ¬ 6 < (k : Int) := by omega
    have h3 : (k : Int) < 7 := by omega
    have hV : Hid (rgs1 e = (rnam6 e.x nm && (((ex == -1) || ((e.es.length : Int) == ex)) && (rgx e.es && ((th || ((e.ts.length : Int) == 0)) && (rgs e.ts && ((el || ((e.us.length : Int) == 0)) && rgs e.us))))))) := by
      show rgs1 e = _
      rw [rgs1_eq, hk2, hok]
      generalize rgx e.es = b1
      generalize rgs e.ts = b2
      generalize rgs e.us = b3
      generalize rnam6 e.x nm = b4
      generalize ((ex == -1) || ((e.es.length : Int) == ex)) = b5
      generalize (th || ((e.ts.length : Int) == 0)) = b6
      generalize (el || ((e.us.length : Int) == 0)) = b7
      revert b1 b2 b3 b4 b5 b6 b7
      decide
    rw [hV.out]
    rw [hk2] at hb1
    have K0 := Lib.hid (TwoB.new w [.int .i64 (k : Int), .string ⟨e.x.toArray⟩, .slice A1 e.es.length c1, .slice A2 e.ts.length c2, .slice A3 e.us.length c3, .int .i64 e.l, .int .i64 e.c] [.bool nm, .bool th, .bool el, .int .i64 ex] 37 80)
    have hN2 := sbk1_eq e
    have p1 := astRName e.x nm (by omega) _ (hL.words.step K0.out.2.2)
    have q4 := Lib.hid (fun W (h1 : LaidA W) (h2 : XR W A1 e.es) => astAllX (xbk e.es) e.es (Nat.le_refl _) (by omega) A1 c1 W h1 h2)
    have q6 := Lib.hid (fun W (h1 : LaidA W) (h2 : SR W A2 e.ts) => ih1 A2 c2 W h1 h2)
    have q7 := Lib.hid (fun W (h1 : LaidA W) (h2 : SR W A3 e.us) => ih2 A3 c3 W h1 h2)
    have HL := Lib.hid (And.intro hL (And.intro hx1 (And.intro hx2 hx3)))
    obtain ⟨v1, hv1⟩ : ∃ v, v = rnam6 e.x nm := ⟨_, rfl⟩
    obtain ⟨x0, hx0⟩ : ∃ v, v = (ex == -1) := ⟨_, rfl⟩
    obtain ⟨x1, hx1'⟩ : ∃ v, v = ((e.es.length : Int) == ex) := ⟨_, rfl⟩
    obtain ⟨v4, hv4⟩ : ∃ v, v = rgx e.es := ⟨_, rfl⟩
    obtain ⟨z2, hz2⟩ : ∃ v, v = ((e.ts.length : Int) == 0) := ⟨_, rfl⟩
    obtain ⟨v6, hv6⟩ : ∃ v, v = rgs e.ts := ⟨_, rfl⟩
    obtain ⟨z3, hz3⟩ : ∃ v, v = ((e.us.length : Int) == 0) := ⟨_, rfl⟩
    obtain ⟨v7, hv7⟩ : ∃ v, v = rgs e.us := ⟨_, rfl⟩
    rw [← hv1] at p1
    rw [← hv4] at q4
    rw [← hv6] at q6
    rw [← hv7] at q7
    rw [← hv1, ← hx0, ← hx1', ← hv4, ← hz2, ← hv6, ← hz3, ← hv7]
    replace hx0 := hx0.symm
    replace hx1' := hx1'.symm
    replace hz2 := hz2.symm
    replace hz3 := hz3.symm
    unfold sval
    rw [hk2]
    have hg5 : 1 < w.heap.size := World.block_lt_of_cell? w _ c0
    clear hv1 hv4 hv6 hv7 hV hok ih1 ih2 hx1 hx2 hx3 hL hk hk2 hN hN2 hk5
    generalize e.es.length = m1 at *
    generalize e.ts.length = m2 at *
    generalize e.us.length = m3 at *
    go_enter Tryd.func20, Tryd.ntmps20
    go_wp2_with fail
    refine p1.mono ?_
    rintro e1 w1 ⟨rfl, hw1⟩
    have K2 := Lib.hid (K0.out.step hw1)
    clear p1 hw1 K0
    have s2 := K2.out.1.seven
    have t2 := K2.out.2.1.four
    have p4 := q4.out _ (HL.out.1.step K2.out.2.2) (HL.out.2.1.step K2.out.2.2)
    cases v1 with
    | false =>
      go_wp2_with fail
      go_ret
      exact ⟨rfl, K2.out.2.2⟩
    | true =>
    cases x0 with
    | true =>
      go_wp2_with fail
      refine p4.mono ?_
      rintro e1 w2 ⟨rfl, hw2⟩
      have K4 := Lib.hid (K2.out.step hw2)
      clear p4 hw2
      have s4 := K4.out.1.seven
      have t4 := K4.out.2.1.four
      cases v4 with
      | false =>
        go_wp2_with fail
        go_ret
        exact ⟨rfl, K4.out.2.2⟩
      | true =>
      have p6 := q6.out _ (HL.out.1.step K4.out.2.2) (HL.out.2.2.1.step K4.out.2.2)
      cases th with
      | true =>
        go_wp2_with fail
        refine p6.mono ?_
        rintro e1 w3 ⟨rfl, hw3⟩
        have K6 := Lib.hid (K4.out.step hw3)
        clear p6 hw3
        cases v6 with
        | false =>
          go_wp2_with fail
          go_ret
          exact ⟨rfl, K6.out.2.2⟩
        | true =>
        have p7 := q7.out _ (HL.out.1.step K6.out.2.2) (HL.out.2.2.2.step K6.out.2.2)
        have s6 := K6.out.1.seven
        have t6 := K6.out.2.1.four
        cases el with
        | true =>
          go_wp2_with fail
          refine p7.mono ?_
          rintro e1 w4 ⟨rfl, hw4⟩
          go_wp2_with fail
          go_ret
          exact ⟨by cases v7 <;> rfl, bth5 K6.out.2.2 hw4⟩
        | false =>
        cases z3 with
        | false =>
          go_wp2_with fail
          go_ret
          exact ⟨rfl, K6.out.2.2⟩
        | true =>
        go_wp2_with fail
        refine p7.mono ?_
        rintro e1 w4 ⟨rfl, hw4⟩
        go_wp2_with fail
        go_ret
        exact ⟨by cases v7 <;> rfl, bth5 K6.out.2.2 hw4⟩
      | false =>
      cases z2 with
      | false =>
        go_wp2_with fail
        go_ret
        exact ⟨rfl, K4.out.2.2⟩
      | true =>
      go_wp2_with fail
      refine p6.mono ?_
      rintro e1 w3 ⟨rfl, hw3⟩
      have K6 := Lib.hid (K4.out.step hw3)
      clear p6 hw3
      cases v6 with
      | false =>
        go_wp2_with fail
        go_ret
        exact ⟨rfl, K6.out.2.2⟩
      | true =>
      have p7 := q7.out _ (HL.out.1.step K6.out.2.2) (HL.out.2.2.2.step K6.out.2.2)
      have s6 := K6.out.1.seven
      have t6 := K6.out.2.1.four
      cases el with
      | true =>
        go_wp2_with fail
        refine p7.mono ?_
        rintro e1 w4 ⟨rfl, hw4⟩
        go_wp2_with fail
        go_ret
        exact ⟨by cases v7 <;> rfl, bth5 K6.out.2.2 hw4⟩
      | false =>
      cases z3 with
      | false =>
        go_wp2_with fail
        go_ret
        exact ⟨rfl, K6.out.2.2⟩
      | true =>
      go_wp2_with fail
      refine p7.mono ?_
      rintro e1 w4 ⟨rfl, hw4⟩
      go_wp2_with fail
      go_ret
      exact ⟨by cases v7 <;> rfl, bth5 K6.out.2.2 hw4⟩
    | false =>
    cases x1 with
    | false =>
      go_wp2_with fail
      go_ret
      exact ⟨rfl, K2.out.2.2⟩
    | true =>
    go_wp2_with fail
    refine p4.mono ?_
    rintro e1 w2 ⟨rfl, hw2⟩
    have K4 := Lib.hid (K2.out.step hw2)
    clear p4 hw2
    have s4 := K4.out.1.seven
    have t4 := K4.out.2.1.four
    cases v4 with
    | false =>
      go_wp2_with fail
      go_ret
      exact ⟨rfl, K4.out.2.2⟩
    | true =>
    have p6 := q6.out _ (HL.out.1.step K4.out.2.2) (HL.out.2.2.1.step K4.out.2.2)
    cases th with
    | true =>
      go_wp2_with fail
      refine p6.mono ?_
      rintro e1 w3 ⟨rfl, hw3⟩
      have K6 := Lib.hid (K4.out.step hw3)
      clear p6 hw3
      cases v6 with
      | false =>
        go_wp2_with fail
        go_ret
        exact ⟨rfl, K6.out.2.2⟩
      | true =>
      have p7 := q7.out _ (HL.out.1.step K6.out.2.2) (HL.out.2.2.2.step K6.out.2.2)
      have s6 := K6.out.1.seven
      have t6 := K6.out.2.1.four
      cases el with
      | true =>
        go_wp2_with fail
        refine p7.mono ?_
        rintro e1 w4 ⟨rfl, hw4⟩
        go_wp2_with fail
        go_ret
        exact ⟨by cases v7 <;> rfl, bth5 K6.out.2.2 hw4⟩
      | false =>
      cases z3 with
      | false =>
        go_wp2_with fail
        go_ret
        exact ⟨rfl, K6.out.2.2⟩
      | true =>
      go_wp2_with fail
      refine p7.mono ?_
      rintro e1 w4 ⟨rfl, hw4⟩
      go_wp2_with fail
      go_ret
      exact ⟨by cases v7 <;> rfl, bth5 K6.out.2.2 hw4⟩
    | false =>
    cases z2 with
    | false =>
      go_wp2_with fail
      go_ret
      exact ⟨rfl, K4.out.2.2⟩
    | true =>
    go_wp2_with fail
    refine p6.mono ?_
    rintro e1 w3 ⟨rfl, hw3⟩
    have K6 := Lib.hid (K4.out.step hw3)
    clear p6 hw3
    cases v6 with
    | false =>
      go_wp2_with fail
      go_ret
      exact ⟨rfl, K6.out.2.2⟩
    | true =>
    have p7 := q7.out _ (HL.out.1.step K6.out.2.2) (HL.out.2.2.2.step K6.out.2.2)
    have s6 := K6.out.1.seven
    have t6 := K6.out.2.1.four
    cases el with
    | true =>
      go_wp2_with fail
      refine p7.mono ?_
      rintro e1 w4 ⟨rfl, hw4⟩
      go_wp2_with fail
      go_ret
      exact ⟨by cases v7 <;> rfl, bth5 K6.out.2.2 hw4⟩
    | false =>
    cases z3 with
    | false =>
      go_wp2_with fail
      go_ret
      exact ⟨rfl, K6.out.2.2⟩
    | true =>
    go_wp2_with fail
    refine p7.mono ?_
    rintro e1 w4 ⟨rfl, hw4⟩
    go_wp2_with fail
    go_ret
    exact ⟨by cases v7 <;> rfl, bth5 K6.out.2.2 hw4⟩
  · rw [rgs1_out hk]
    unfold sval
    generalize e.k = k at *
    rcases (show k < 0 ∨ (¬ k < 0 ∧ 6 < k) by omega) with h | ⟨h, h2⟩
    · go_enter Tryd.func20, Tryd.ntmps20
      go_wp2_with fail
      go_ret
      exact ⟨rfl, hb1.out⟩
    · go_enter Tryd.func20, Tryd.ntmps20
      go_wp2_with fail
      go_ret
      exact ⟨rfl, hb1.out⟩

set_option maxHeartbeats 4000000 in
theorem astAllS (N : Nat) : ∀ (es : List SV), sbk es ≤ N → N ≤ 4000000 → AllSC es := by
  induction N using Nat.strongRecOn with
  | ind N ih =>
  intro es hN hNN A c w hL hx
  have hlen := sbk_len es
  obtain ⟨n, hn⟩ : ∃ n, n = es.length := ⟨_, rfl⟩
  obtain ⟨b, hb⟩ : ∃ b, b = rgs es := ⟨_, rfl⟩
  rw [← hb]
  have HB := Lib.hid hb
  have HX := Lib.hid (And.intro hL hx)
  rw [← hn]
  rw [← hn] at hlen
  have HN := Lib.hid hn
  have IH := Lib.hid ih
  have hnn : n ≤ 4000000 := by omega
  have hS := Lib.hid hN
  clear hn hx ih hL hb hN
  go_enter Tryd.func19, Tryd.ntmps19
  go_wp2_with fail
  go_loopw [9] (fun v W => ∃ i : Nat, i ≤ n ∧ v = .int .i64 i ∧ Hid (∀ j : Nat, j < i → ∀ e, es[j]? = some e → rgs1 e = true) ∧ Hid (Below w.heap.size w W)) (fun v _ => n - (intOf v).toNat)
  case atStart => exact ⟨0, by omega, rfl, fun j hj => absurd hj (by omega), Below.refl _ _⟩
  case round =>
    obtain ⟨i, hi, rfl, hst, hbw⟩ := hrel
    by_cases hlt : i < n
    · have hlt' : (i : Int) < n := by omega
      obtain ⟨ad, e, rfl, he, A1, c1, A2, c2, A3, c3, h0, h1, h2, h3, h4, h5, h6, hx1, hx2, hx3⟩ := (HX.out.2.step hbw.out).el (i := i) (by rw [← HN.out]; exact hlt)
      have hb1 := Lib.hid (bnew5 wr (.cells #[.int .i64 e.k, .string ⟨e.x.toArray⟩, .slice A1 e.es.length c1, .slice A2 e.ts.length c2, .slice A3 e.us.length c3, .int .i64 e.l, .int .i64 e.c] 37))
      have hbk := sbk_get he
      have hbk2 := sbk1_eq e
      have hS2 := hS.out
      have hq := astRS1 e (by omega) (IH.out (sbk e.ts) (by omega) e.ts (Nat.le_refl _) (by omega)) (IH.out (sbk e.us) (by omega) e.us (Nat.le_refl _) (by omega)) A1 c1 A2 c2 A3 c3 _ (HX.out.1.step (bth5 hbw.out hb1.out)) (hx1.step hb1.out) (hx2.step hb1.out) (hx3.step hb1.out)
      have HE := Lib.hid he
      clear he hx1 hx2 hx3 hbk2 hbk hS2
      unfold sval at hq
      generalize e.es.length = m1 at *
      generalize e.ts.length = m2 at *
      generalize e.us.length = m3 at *
      go_wp2_with fail
      refine hq.mono ?_
      rintro v1 w1 ⟨rfl, hw1⟩
      clear hq
      cases hv : rgs1 e with
      | true =>
        have hst2 : Hid (∀ j : Nat, j < i + 1 → ∀ t, es[j]? = some t → rgs1 t = true) := fun j hj t' ht' => by
          rcases Nat.lt_or_ge j i with h | h
          · exact hst.out j h t' ht'
          · obtain rfl : j = i := by omega
            have := HE.out.symm.trans ht'
            injection this with this
            rw [← this]; exact hv
        clear hst hv
        go_wp2_with fail
        exact ⟨⟨i + 1, by omega, by go_num, hst2, bth5 (bth5 hbw.out hb1.out) hw1⟩, by simp [intOf]; omega⟩
      | false =>
        have hvv : Hid (b = false) := by show b = false; rw [HB.out]; exact rgs_no HE.out hv
        clear hst hv
        go_wp2_with fail
        go_ret
        exact ⟨by rw [hvv.out]; rfl, bth5 (bth5 hbw.out hb1.out) hw1⟩
    · obtain rfl : i = n := by omega
      have hlt' : ¬ (i : Int) < i := by omega
      have hvv : Hid (b = true) := by
        show b = true
        rw [HB.out]
        exact rgs_yes fun j a hj ha => hst.out j (by rw [HN.out]; exact hj) a ha
      clear hst
      go_wp2_with fail
      go_ret
      exact ⟨by rw [hvv.out]; rfl, hbw.out⟩

set_option maxHeartbeats 16000000 in
theorem astRD1 (e : DV) (hN : dbk1 e ≤ 4000000) (A1 : Option Addr) (c1 : Nat) (A2 : Option Addr) (c2 : Nat) (w : World) (hL : LaidA w) (hx1 : RowS w A1 e.ps.length e.ps) (hx2 : SR w A2 e.body) : Calls Tryd.prog 18 #[dval e A1 c1 A2 c2] w fun v w' => v = .returned (.bool (rgd1 e)) ∧ Below w.heap.size w w' := by
  have hb1 := Lib.hid (bnew5 w (.cells #[.int .i64 e.k, .string ⟨e.x.toArray⟩, .int .i64 e.lo, .int .i64 e.hi, .int .i64 e.sz, .slice A1 e.ps.length c1, .slice A2 e.body.length c2, .int .i64 e.l, .int .i64 e.c] 47))
  by_cases hk : 0 ≤ e.k ∧ e.k ≤ 4
  · obtain ⟨k, hk2⟩ : ∃ k : Nat, e.k = k := ⟨e.k.toNat, by omega⟩
    have hk5 : k < 5 := by omega
    obtain ⟨li, si, bo, c0, c1', c2', hok⟩ := drow w hL e.x e.lo e.hi e.sz e.ps.length e.body.length k hk5
    have h1 : ¬ (k : Int) < 0 := by omega
    have h2 : ¬ 4 < (k : Int) := by omega
    have h3 : (k : Int) < 5 := by omega
    have hV : Hid (rgd1 e = (name6 e.x && (rnum6 e.sz si && ((li || ((e.lo == 0) && (e.hi == 0))) && ((bo || (((e.ps.length : Int) == 0) && ((e.body.length : Int) == 0))) && (e.ps.all name6 && rgs e.body)))))) := by
      show rgd1 e = _
      unfold rgd1
      rw [hk2, hok]
      generalize e.ps.all name6 = b1
      generalize rgs e.body = b2
      generalize name6 e.x = b3
      generalize rnum6 e.sz si = b4
      generalize (li || ((e.lo == 0) && (e.hi == 0))) = b5
      generalize (bo || (((e.ps.length : Int) == 0) && ((e.body.length : Int) == 0))) = b6
      revert b1 b2 b3 b4 b5 b6
      decide
    rw [hV.out]
    rw [hk2] at hb1
    have K0 := Lib.hid (TwoB.new w [.int .i64 (k : Int), .string ⟨e.x.toArray⟩, .int .i64 e.lo, .int .i64 e.hi, .int .i64 e.sz, .slice A1 e.ps.length c1, .slice A2 e.body.length c2, .int .i64 e.l, .int .i64 e.c] [.bool li, .bool si, .bool bo] 47 75)
    have hN2 : dbk1 e = 1 + e.x.length + pbk e.ps + sbk e.body := rfl
    have p1 := astName e.x (by omega) _ (hL.words.step K0.out.2.2)
    have q2 := Lib.hid (fun W => astRNumber e.sz si W)
    have q5 := Lib.hid (fun W (h1 : LaidW W) (h2 : RowS W A1 e.ps.length e.ps) => astAllT (c := c1) h2 (by omega) h1)
    have q6 := Lib.hid (fun W (h1 : LaidA W) (h2 : SR W A2 e.body) => astAllS (sbk e.body) e.body (Nat.le_refl _) (by omega) A2 c2 W h1 h2)
    have HL := Lib.hid (And.intro hL (And.intro hx1 hx2))
    obtain ⟨v1, hv1⟩ : ∃ v, v = name6 e.x := ⟨_, rfl⟩
    obtain ⟨v2, hv2⟩ : ∃ v, v = rnum6 e.sz si := ⟨_, rfl⟩
    obtain ⟨y0, hy0⟩ : ∃ v, v = (e.lo == 0) := ⟨_, rfl⟩
    obtain ⟨y1, hy1⟩ : ∃ v, v = (e.hi == 0) := ⟨_, rfl⟩
    obtain ⟨z1, hz1⟩ : ∃ v, v = ((e.ps.length : Int) == 0) := ⟨_, rfl⟩
    obtain ⟨z2, hz2⟩ : ∃ v, v = ((e.body.length : Int) == 0) := ⟨_, rfl⟩
    obtain ⟨v5, hv5⟩ : ∃ v, v = e.ps.all name6 := ⟨_, rfl⟩
    obtain ⟨v6, hv6⟩ : ∃ v, v = rgs e.body := ⟨_, rfl⟩
    rw [← hv1] at p1
    rw [← hv2] at q2
    rw [← hv5] at q5
    rw [← hv6] at q6
    rw [← hv1, ← hv2, ← hy0, ← hy1, ← hz1, ← hz2, ← hv5, ← hv6]
    replace hy0 := hy0.symm
    replace hy1 := hy1.symm
    replace hz1 := hz1.symm
    replace hz2 := hz2.symm
    unfold dval
    rw [hk2]
    have hg5 : 0 < w.heap.size := World.block_lt_of_cell? w _ c0
    clear hv1 hv2 hv5 hv6 hV hok hx1 hx2 hL hk hk2 hN hN2 hk5
    generalize e.ps.length = m1 at *
    generalize e.body.length = m2 at *
    go_enter Tryd.func18, Tryd.ntmps18
    go_wp2_with fail
    refine p1.mono ?_
    rintro e1 w1 ⟨rfl, hw1⟩
    have K2 := Lib.hid (K0.out.step hw1)
    clear p1 hw1 K0
    have s2 := K2.out.1.nine
    have t2 := K2.out.2.1.three
    have p5 := q5.out _ (HL.out.1.words.step K2.out.2.2) (HL.out.2.1.below K2.out.2.2)
    have p2 := q2.out w1
    cases v1 with
    | false =>
      go_wp2_with fail
      go_ret
      exact ⟨rfl, K2.out.2.2⟩
    | true =>
    go_wp2_with fail
    refine p2.mono ?_
    rintro e1 w2 ⟨rfl, rfl⟩
    clear p2
    cases v2 with
    | false =>
      go_wp2_with fail
      go_ret
      exact ⟨rfl, K2.out.2.2⟩
    | true =>
    cases li with
    | true =>
      cases bo with
      | true =>
        go_wp2_with fail
        refine p5.mono ?_
        rintro e1 w3 ⟨rfl, hw3⟩
        have K5 := Lib.hid (K2.out.step hw3)
        clear p5 hw3
        have s5 := K5.out.1.nine
        have t5 := K5.out.2.1.three
        have p6 := q6.out _ (HL.out.1.step K5.out.2.2) (HL.out.2.2.step K5.out.2.2)
        cases v5 with
        | false =>
          go_wp2_with fail
          go_ret
          exact ⟨rfl, K5.out.2.2⟩
        | true =>
        go_wp2_with fail
        refine p6.mono ?_
        rintro e1 w4 ⟨rfl, hw4⟩
        go_wp2_with fail
        go_ret
        exact ⟨by cases v6 <;> rfl, bth5 K5.out.2.2 hw4⟩
      | false =>
      cases z1 with
      | false =>
        go_wp2_with fail
        go_ret
        exact ⟨rfl, K2.out.2.2⟩
      | true =>
      cases z2 with
      | false =>
        go_wp2_with fail
        go_ret
        exact ⟨rfl, K2.out.2.2⟩
      | true =>
      go_wp2_with fail
      refine p5.mono ?_
      rintro e1 w3 ⟨rfl, hw3⟩
      have K5 := Lib.hid (K2.out.step hw3)
      clear p5 hw3
      have s5 := K5.out.1.nine
      have t5 := K5.out.2.1.three
      have p6 := q6.out _ (HL.out.1.step K5.out.2.2) (HL.out.2.2.step K5.out.2.2)
      cases v5 with
      | false =>
        go_wp2_with fail
        go_ret
        exact ⟨rfl, K5.out.2.2⟩
      | true =>
      go_wp2_with fail
      refine p6.mono ?_
      rintro e1 w4 ⟨rfl, hw4⟩
      go_wp2_with fail
      go_ret
      exact ⟨by cases v6 <;> rfl, bth5 K5.out.2.2 hw4⟩
    | false =>
    cases y0 with
    | false =>
      go_wp2_with fail
      go_ret
      exact ⟨rfl, K2.out.2.2⟩
    | true =>
    cases y1 with
    | false =>
      go_wp2_with fail
      go_ret
      exact ⟨rfl, K2.out.2.2⟩
    | true =>
    cases bo with
    | true =>
      go_wp2_with fail
      refine p5.mono ?_
      rintro e1 w3 ⟨rfl, hw3⟩
      have K5 := Lib.hid (K2.out.step hw3)
      clear p5 hw3
      have s5 := K5.out.1.nine
      have t5 := K5.out.2.1.three
      have p6 := q6.out _ (HL.out.1.step K5.out.2.2) (HL.out.2.2.step K5.out.2.2)
      cases v5 with
      | false =>
        go_wp2_with fail
        go_ret
        exact ⟨rfl, K5.out.2.2⟩
      | true =>
      go_wp2_with fail
      refine p6.mono ?_
      rintro e1 w4 ⟨rfl, hw4⟩
      go_wp2_with fail
      go_ret
      exact ⟨by cases v6 <;> rfl, bth5 K5.out.2.2 hw4⟩
    | false =>
    cases z1 with
    | false =>
      go_wp2_with fail
      go_ret
      exact ⟨rfl, K2.out.2.2⟩
    | true =>
    cases z2 with
    | false =>
      go_wp2_with fail
      go_ret
      exact ⟨rfl, K2.out.2.2⟩
    | true =>
    go_wp2_with fail
    refine p5.mono ?_
    rintro e1 w3 ⟨rfl, hw3⟩
    have K5 := Lib.hid (K2.out.step hw3)
    clear p5 hw3
    have s5 := K5.out.1.nine
    have t5 := K5.out.2.1.three
    have p6 := q6.out _ (HL.out.1.step K5.out.2.2) (HL.out.2.2.step K5.out.2.2)
    cases v5 with
    | false =>
      go_wp2_with fail
      go_ret
      exact ⟨rfl, K5.out.2.2⟩
    | true =>
    go_wp2_with fail
    refine p6.mono ?_
    rintro e1 w4 ⟨rfl, hw4⟩
    go_wp2_with fail
    go_ret
    exact ⟨by cases v6 <;> rfl, bth5 K5.out.2.2 hw4⟩
  · rw [rgd1_out hk]
    unfold dval
    generalize e.k = k at *
    rcases (show k < 0 ∨ (¬ k < 0 ∧ 4 < k) by omega) with h | ⟨h, h2⟩
    · go_enter Tryd.func18, Tryd.ntmps18
      go_wp2_with fail
      go_ret
      exact ⟨rfl, hb1.out⟩
    · go_enter Tryd.func18, Tryd.ntmps18
      go_wp2_with fail
      go_ret
      exact ⟨rfl, hb1.out⟩
theorem dbk_len (ds : List DV) : ds.length ≤ dbk ds := Nat.le_trans (dsz_len ds) (dsz_bk ds)

set_option maxHeartbeats 4000000 in
theorem astAllD (es : List DV) (hN : dbk es ≤ 4000000) (A : Option Addr) (c : Nat) (w : World) (hL : LaidA w) (hx : DR w A es) : Calls Tryd.prog 17 #[.slice A es.length c, .func (.func 18) #[] #[]] w fun e w' => e = .returned (.bool (rgd es)) ∧ Below w.heap.size w w' := by
  have hlen := dbk_len es
  obtain ⟨n, hn⟩ : ∃ n, n = es.length := ⟨_, rfl⟩
  obtain ⟨b, hb⟩ : ∃ b, b = rgd es := ⟨_, rfl⟩
  rw [← hb]
  have HB := Lib.hid hb
  have HX := Lib.hid (And.intro hL hx)
  rw [← hn]
  rw [← hn] at hlen
  have HN := Lib.hid hn
  have hnn : n ≤ 4000000 := by omega
  have hS := Lib.hid hN
  clear hn hx hL hb hN
  go_enter Tryd.func17, Tryd.ntmps17
  go_wp2_with fail
  go_loopw [9] (fun v W => ∃ i : Nat, i ≤ n ∧ v = .int .i64 i ∧ Hid (∀ j : Nat, j < i → ∀ e, es[j]? = some e → rgd1 e = true) ∧ Hid (Below w.heap.size w W)) (fun v _ => n - (intOf v).toNat)
  case atStart => exact ⟨0, by omega, rfl, fun j hj => absurd hj (by omega), Below.refl _ _⟩
  case round =>
    obtain ⟨i, hi, rfl, hst, hbw⟩ := hrel
    by_cases hlt : i < n
    · have hlt' : (i : Int) < n := by omega
      obtain ⟨ad, e, rfl, he, A1, c1, A2, c2, h0, h1, h2, h3, h4, h5, h6, h7, h8, hx1, hx2⟩ := (HX.out.2.step hbw.out).el (i := i) (by rw [← HN.out]; exact hlt)
      have hb1 := Lib.hid (bnew5 wr (.cells #[.int .i64 e.k, .string ⟨e.x.toArray⟩, .int .i64 e.lo, .int .i64 e.hi, .int .i64 e.sz, .slice A1 e.ps.length c1, .slice A2 e.body.length c2, .int .i64 e.l, .int .i64 e.c] 47))
      have hbk := dbk_get he
      have hS2 := hS.out
      have hq := astRD1 e (by omega) A1 c1 A2 c2 _ (HX.out.1.step (bth5 hbw.out hb1.out)) (hx1.below hb1.out) (hx2.step hb1.out)
      have HE := Lib.hid he
      clear he hx1 hx2 hbk hS2
      unfold dval at hq
      generalize e.ps.length = m1 at *
      generalize e.body.length = m2 at *
      go_wp2_with fail
      refine hq.mono ?_
      rintro v1 w1 ⟨rfl, hw1⟩
      clear hq
      cases hv : rgd1 e with
      | true =>
        have hst2 : Hid (∀ j : Nat, j < i + 1 → ∀ t, es[j]? = some t → rgd1 t = true) := fun j hj t' ht' => by
          rcases Nat.lt_or_ge j i with h | h
          · exact hst.out j h t' ht'
          · obtain rfl : j = i := by omega
            have := HE.out.symm.trans ht'
            injection this with this
            rw [← this]; exact hv
        clear hst hv
        go_wp2_with fail
        exact ⟨⟨i + 1, by omega, by go_num, hst2, bth5 (bth5 hbw.out hb1.out) hw1⟩, by simp [intOf]; omega⟩
      | false =>
        have hvv : Hid (b = false) := by show b = false; rw [HB.out]; exact all_no HE.out hv
        clear hst hv
        go_wp2_with fail
        go_ret
        exact ⟨by rw [hvv.out]; rfl, bth5 (bth5 hbw.out hb1.out) hw1⟩
    · obtain rfl : i = n := by omega
      have hlt' : ¬ (i : Int) < i := by omega
      have hvv : Hid (b = true) := by
        show b = true
        rw [HB.out]
        exact all_yes fun j a hj ha => hst.out j (by rw [HN.out]; exact hj) a ha
      clear hst
      go_wp2_with fail
      go_ret
      exact ⟨by rw [hvv.out]; rfl, hbw.out⟩

set_option maxHeartbeats 4000000 in
theorem astRight6 (ds : List DV) (mn : List SV) (hs : sbk mn + dbk ds ≤ 4000000) (A : Option Addr) (ca : Nat) (B : Option Addr) (cb : Nat) (w : World) (hL : LaidA w) (hx : DR w A ds) (hy : SR w B mn) : Calls Tryd.prog 6 #[pval A ds.length ca B mn.length cb] w fun e w' => e = .returned (.bool (rgd ds && rgs mn)) ∧ Below w.heap.size w w' := by
  unfold pval
  have k0 : Hid (Box (w.alloc (.cells #[.slice A ds.length ca, .slice B mn.length cb] 25)) w.heap.size [.slice A ds.length ca, .slice B mn.length cb] ∧ Below w.heap.size w (w.alloc (.cells #[.slice A ds.length ca, .slice B mn.length cb] 25))) := ⟨Box.new w [.slice A ds.length ca, .slice B mn.length cb] 25, bnew5 w _⟩
  have q1 := astAllD ds (by omega) A ca _ (hL.step k0.out.2) (hx.step k0.out.2)
  have q2 := Lib.hid (fun W h1 h2 => astAllS (sbk mn) mn (Nat.le_refl _) (by omega) B cb W h1 h2)
  have hY := Lib.hid (And.intro hL hy)
  obtain ⟨b1, hb1⟩ : ∃ b1, b1 = rgd ds := ⟨_, rfl⟩
  obtain ⟨b2, hb2⟩ : ∃ b2, b2 = rgs mn := ⟨_, rfl⟩
  rw [← hb1] at q1
  rw [← hb2] at q2
  rw [← hb1, ← hb2]
  clear hx hy hL hb1 hb2 hs
  generalize ds.length = n at *
  go_enter Tryd.func6, Tryd.ntmps6
  go_wp2_with fail
  refine q1.mono ?_
  rintro e1 w1 ⟨rfl, hw1⟩
  have k1 := Lib.hid (And.intro (k0.out.1.step hw1) (bth5 k0.out.2 hw1))
  have s1 := k1.out.1.two
  have p1 := q2.out w1 (hY.out.1.step k1.out.2) (hY.out.2.step k1.out.2)
  clear q1 k0
  cases b1 with
  | false =>
    go_wp2_with fail
    go_ret
    exact ⟨rfl, k1.out.2⟩
  | true =>
  go_wp2_with fail
  refine p1.mono ?_
  rintro e1 w2 ⟨rfl, hw2⟩
  go_wp2_with fail
  go_ret
  exact ⟨by cases b2 <;> rfl, bth5 k1.out.2 hw2⟩
end

section
open Go.RowKit

theorem textB (a b : List UInt8) : ((⟨a.toArray⟩ : ByteArray).toList == (⟨b.toArray⟩ : ByteArray).toList) = (a == b) := by rw [Bool.eq_iff_iff]; simp
set_option maxHeartbeats 2000000 in
theorem astEqualT {A A' : Option Addr} {n n' c c' : Nat} {r s : List (List UInt8)} {w : World} (h : RowS w A n r) (h' : RowS w A' n' s) (hn : n ≤ 4611686018427387904) :
    Calls Tryd.prog 44 #[.slice A n c, .slice A' n' c'] w fun e w' => e = .returned (.bool (r == s)) ∧ Below w.heap.size w w' := by
  obtain ⟨b, hb⟩ : ∃ b, b = (r == s) := ⟨_, rfl⟩
  rw [← hb]
  have HB := Lib.hid hb
  clear hb
  have hl := Lib.hid h.len
  have hl' := Lib.hid h'.len
  by_cases hnn : n = n'
  · subst hnn
    go_enter Tryd.func44, Tryd.ntmps44
    go_wp2_with fail
    go_loopw [13] (fun v W => ∃ i : Nat, i ≤ n ∧ v = .int .i64 i ∧ Hid (∀ j, j < i → r[j]? = s[j]?) ∧ Hid (Below w.heap.size w W)) (fun v _ => n - (intOf v).toNat)
    case atStart => exact ⟨0, by omega, rfl, fun j hj => absurd hj (by omega), Below.refl _ _⟩
    case round =>
      obtain ⟨i, hi, rfl, hst, hbw⟩ := hrel
      by_cases hlt : i < n
      · have hd := Lib.hid (bth5 hbw.out (Below.refl wr.heap.size wr).drew)
        obtain ⟨ad, t, rfl, ht, hc1⟩ := (h.below hbw.out).at_ hlt
        obtain ⟨ad', t', rfl, ht', hc2⟩ := (h'.below hbw.out).at_ hlt
        have hlt' : (i : Int) < n := by omega
        have HT := Lib.hid (And.intro ht ht')
        clear h h' ht ht'
        by_cases he : t = t'
        · have hst2 : Hid (∀ j, j < i + 1 → r[j]? = s[j]?) := fun j hj => by
            rcases Nat.lt_or_ge j i with h | h
            · exact hst.out j h
            · obtain rfl : j = i := by omega
              rw [HT.out.1, HT.out.2, he]
          have e1 := eq_texts6 he
          clear hst HT he HB
          generalize (⟨t.toArray⟩ : ByteArray) = ts at *
          generalize (⟨t'.toArray⟩ : ByteArray) = ts' at *
          go_wp2_with fail
          go_quiet (fail)
          go_wp2_with fail
          refine ⟨⟨i + 1, by omega, by go_num, hst2, ?_⟩, by simp [intOf]; omega⟩
          first | exact below_drewN_ hbw.out _ | exact hd
        · have hv : Hid (b = false) := by
            show b = _
            rw [HB.out, beq_eq_false_iff_ne]
            intro e
            have := HT.out.1.symm.trans (e ▸ HT.out.2 : r[i]? = some t')
            injection this with this
            exact he this
          have e1 := ne_texts6 he
          clear hst HT he HB
          generalize (⟨t.toArray⟩ : ByteArray) = ts at *
          generalize (⟨t'.toArray⟩ : ByteArray) = ts' at *
          go_wp2_with fail
          go_quiet (fail)
          go_wp2_with fail
          go_ret
          refine ⟨by rw [hv.out]; rfl, ?_⟩
          first | exact below_drewN_ hbw.out _ | exact hd.out
      · obtain rfl : i = n := by omega
        have hlt' : ¬ (i : Int) < i := by omega
        have hv : Hid (b = true) := by
          show b = _
          rw [HB.out, beq_iff_eq]
          apply List.ext_getElem?
          intro j
          rcases Nat.lt_or_ge j i with h | h
          · exact hst.out j h
          · rw [List.getElem?_eq_none (by rw [← hl.out]; exact h), List.getElem?_eq_none (by rw [← hl'.out]; exact h)]
        clear h h' hst HB
        go_wp2_with fail
        go_ret
        exact ⟨by rw [hv.out]; rfl, hbw.out⟩
  · have hv : Hid (b = false) := by
      show b = _
      rw [HB.out, beq_eq_false_iff_ne]
      intro e
      exact hnn (by rw [hl.out, hl'.out, e])
    have e1 : ((n : Int) == n') = false := by simp; omega
    have e2 : ¬ (n : Int) = n' := by omega
    clear HB
    go_enter Tryd.func44, Tryd.ntmps44
    go_wp2_with fail
    go_ret
    exact ⟨by rw [hv.out]; rfl, Below.refl _ _⟩

def EqXC (r : List XV) : Prop := ∀ (s : List XV) (A : Option Addr) (ca : Nat) (B : Option Addr) (cb : Nat) (w : World), XR w A r → XR w B s → Calls Tryd.prog 30 #[.slice A r.length ca, .slice B s.length cb, .func (.func 10) #[] #[]] w fun v w' => v = .returned (.bool (smx r s)) ∧ Below w.heap.size w w'

set_option maxHeartbeats 8000000 in
theorem astSX1 (e f : XV) (ih : EqXC e.gs) (A1 : Option Addr) (c1 : Nat) (B1 : Option Addr) (d1 : Nat) (w : World) (hx1 : XR w A1 e.gs) (hy1 : XR w B1 f.gs) : Calls Tryd.prog 10 #[xval e A1 c1, xval f B1 d1] w fun v w' => v = .returned (.bool (smx1 e f)) ∧ Below w.heap.size w w' := by
  have K0 := Lib.hid (TwoB.new w [.int .i64 e.k, .int .i64 e.n, .string ⟨e.x.toArray⟩, .int .i64 e.o, .slice A1 e.gs.length c1, .int .i64 e.l, .int .i64 e.c] [.int .i64 f.k, .int .i64 f.n, .string ⟨f.x.toArray⟩, .int .i64 f.o, .slice B1 f.gs.length d1, .int .i64 f.l, .int .i64 f.c] 32 32)
  have q1 := Lib.hid (fun W (h1 : XR W A1 e.gs) (h2 : XR W B1 f.gs) => ih f.gs A1 c1 B1 d1 W h1 h2)
  have HL := Lib.hid (And.intro hx1 (hy1))
  have hV : Hid (smx1 e f = ((e.k == f.k) && ((e.n == f.n) && ((e.x == f.x) && ((e.o == f.o) && (smx e.gs f.gs)))))) := smx1_eq e f
  rw [hV.out]
  obtain ⟨v_k, hv_k⟩ : ∃ v, v = (e.k == f.k) := ⟨_, rfl⟩
  obtain ⟨v_n, hv_n⟩ : ∃ v, v = (e.n == f.n) := ⟨_, rfl⟩
  obtain ⟨v_x, hv_x⟩ : ∃ v, v = (e.x == f.x) := ⟨_, rfl⟩
  have ht : ((⟨e.x.toArray⟩ : ByteArray).toList == (⟨f.x.toArray⟩ : ByteArray).toList) = v_x := by rw [hv_x]; exact textB _ _
  obtain ⟨v_o, hv_o⟩ : ∃ v, v = (e.o == f.o) := ⟨_, rfl⟩
  obtain ⟨v_gs, hv_gs⟩ : ∃ v, v = smx e.gs f.gs := ⟨_, rfl⟩
  rw [← hv_gs] at q1
  rw [← hv_k, ← hv_n, ← hv_x, ← hv_o, ← hv_gs]
  replace hv_k := hv_k.symm
  replace hv_n := hv_n.symm
  replace hv_o := hv_o.symm
  clear hV hv_x hv_gs hx1 hy1 ih
  unfold xval
  generalize (⟨e.x.toArray⟩ : ByteArray) = xs at *
  generalize (⟨f.x.toArray⟩ : ByteArray) = ys at *
  generalize e.k = ek at *
  generalize f.k = fk at *
  generalize e.n = en at *
  generalize f.n = fn at *
  generalize e.o = eo at *
  generalize f.o = fo at *
  generalize e.l = el at *
  generalize f.l = fl at *
  generalize e.c = ec at *
  generalize f.c = fc at *
  go_enter Tryd.func10, Tryd.ntmps10
  cases v_k with
  | false =>
    go_wp2_with fail
    go_ret
    exact ⟨rfl, K0.out.2.2⟩
  | true =>
  cases v_n with
  | false =>
    go_wp2_with fail
    go_ret
    exact ⟨rfl, K0.out.2.2⟩
  | true =>
  cases v_x with
  | false =>
    go_wp2_with fail
    go_ret
    exact ⟨rfl, K0.out.2.2⟩
  | true =>
  cases v_o with
  | false =>
    go_wp2_with fail
    go_ret
    exact ⟨rfl, K0.out.2.2⟩
  | true =>
  have p1 := q1.out _ (HL.out.1.step K0.out.2.2) (HL.out.2.step K0.out.2.2)
  go_wp2_with fail
  refine p1.mono ?_
  rintro e1 w1 ⟨rfl, hww1⟩
  go_wp2_with fail
  go_ret
  exact ⟨by cases v_gs <;> rfl, bth5 K0.out.2.2 hww1⟩

set_option maxHeartbeats 8000000 in
theorem astSX (N : Nat) : ∀ (r : List XV), xsz r ≤ N → N ≤ 4611686018427387904 → EqXC r := by
  induction N using Nat.strongRecOn with
  | ind N ih =>
  intro r hr hNN s A ca B cb w hx hy
  obtain ⟨b, hb⟩ : ∃ b, b = smx r s := ⟨_, rfl⟩
  rw [← hb]
  have HB := Lib.hid hb
  have hX := Lib.hid (And.intro hx hy)
  have hG := Lib.hid hr
  have IH := Lib.hid ih
  have hlen := xsz_len r
  by_cases hl : r.length = s.length
  · rw [← hl]
    have HL := Lib.hid hl
    obtain ⟨m, hm⟩ : ∃ m, m = r.length := ⟨_, rfl⟩
    have HM := Lib.hid hm
    rw [← hm] at hlen ⊢
    have hml : m ≤ 4611686018427387904 := by omega
    clear hb hx hy hr hlen ih hl hm
    go_enter Tryd.func30, Tryd.ntmps30
    go_wp2_with fail
    go_loopw [17] (fun v W => ∃ i : Nat, i ≤ m ∧ v = .int .i64 i ∧ Hid (∀ j a b, j < i → r[j]? = some a → s[j]? = some b → smx1 a b = true) ∧ Hid (Below w.heap.size w W)) (fun v _ => m - (intOf v).toNat)
    case atStart => exact ⟨0, by omega, rfl, fun j _ _ hj => absurd hj (by omega), Below.refl _ _⟩
    case round =>
      obtain ⟨i, hi, rfl, hst, hbw⟩ := hrel
      by_cases hlt : i < m
      · have hlt' : (i : Int) < m := by omega
        obtain ⟨ad, e, rfl, he, A1, c1, e0, e1, e2, e3, e4, e5, e6, hx1⟩ := (hX.out.1.step hbw.out).el (i := i) (by rw [← HM.out]; exact hlt)
        obtain ⟨ad2, f, rfl, hf, B1, d1, f0, f1, f2, f3, f4, f5, f6, hy1⟩ := (hX.out.2.step hbw.out).el (i := i) (by rw [← HL.out, ← HM.out]; exact hlt)
        have hb2 := Lib.hid (bth5 (bnew5 wr (.cells #[.int .i64 e.k, .int .i64 e.n, .string ⟨e.x.toArray⟩, .int .i64 e.o, .slice A1 e.gs.length c1, .int .i64 e.l, .int .i64 e.c] 32)) (bnew5 _ (.cells #[.int .i64 f.k, .int .i64 f.n, .string ⟨f.x.toArray⟩, .int .i64 f.o, .slice B1 f.gs.length d1, .int .i64 f.l, .int .i64 f.c] 32)))
        have hz := xsz_get he
        have hz3 := xsz1_eq e
        have hG2 := hG.out
        have hq := astSX1 e f (IH.out (xsz e.gs) (by omega) e.gs (Nat.le_refl _) (by omega)) A1 c1 B1 d1 _ (hx1.step hb2.out) (hy1.step hb2.out)
        have HE := Lib.hid (And.intro he hf)
        have HST : Hid (smx1 e f = true → Hid (∀ j a b, j < i + 1 → r[j]? = some a → s[j]? = some b → smx1 a b = true)) := fun hr j a b hj ha hb => by
          rcases Nat.lt_or_ge j i with h | h
          · exact hst.out j a b h ha hb
          · obtain rfl : j = i := by omega
            have t1 := HE.out.1.symm.trans ha
            have t2 := HE.out.2.symm.trans hb
            injection t1 with t1
            injection t2 with t2
            rw [← t1, ← t2]; exact hr
        have HNO : Hid (smx1 e f = false → b = false) := fun hr => by rw [HB.out]; exact smx_noat HE.out.1 HE.out.2 hr
        unfold xval at hq
        clear he hf hx1 hy1 hz hz3 hG2 hst HE HB
        generalize smx1 e f = sm at *
        generalize e.gs.length = m0 at *
        generalize f.gs.length = n0 at *
        generalize e.k = ek at *
        generalize f.k = fk at *
        generalize e.n = en at *
        generalize f.n = fn at *
        generalize e.o = eo at *
        generalize f.o = fo at *
        generalize e.l = el at *
        generalize f.l = fl at *
        generalize e.c = ec at *
        generalize f.c = fc at *
        generalize (⟨e.x.toArray⟩ : ByteArray) = xs at *
        generalize (⟨f.x.toArray⟩ : ByteArray) = ys at *
        have hba := World.block_lt_of_cell? wr _ f0
        go_wp2_with fail
        refine hq.mono ?_
        rintro v1 w1 ⟨rfl, hw1⟩
        have hbn := Lib.hid (bth5 (bth5 hbw.out hb2.out) hw1)
        clear hq
        cases sm with
        | false =>
          have hv := Lib.hid (HNO.out rfl)
          go_wp2_with fail
          go_ret
          exact ⟨by rw [hv.out]; rfl, hbn.out⟩
        | true =>
          have hst2 := HST.out rfl
          go_wp2_with fail
          exact ⟨⟨i + 1, by omega, by go_num, hst2, hbn⟩, by simp [intOf]; omega⟩
      · obtain rfl : i = m := by omega
        have hlt' : ¬ (i : Int) < i := by omega
        have hv : Hid (b = true) := by
          show b = _
          rw [HB.out]
          exact smx_yes HL.out fun j a b hj => hst.out j a b (by rw [HM.out]; exact hj)
        clear HB hst
        go_wp2_with fail
        go_ret
        exact ⟨by rw [hv.out]; rfl, hbw.out⟩
  · have hv : Hid (b = false) := by show b = _; rw [HB.out]; exact smx_nolen hl
    have e1 : ((r.length : Int) == s.length) = false := by simp; omega
    have e2 : ¬ (r.length : Int) = s.length := by omega
    clear hb hx hy hr hlen HB
    generalize r.length = m at *
    generalize s.length = m' at *
    go_enter Tryd.func30, Tryd.ntmps30
    go_wp2_with fail
    go_ret
    exact ⟨by rw [hv.out]; rfl, Below.refl _ _⟩

def EqSC (r : List SV) : Prop := ∀ (s : List SV) (A : Option Addr) (ca : Nat) (B : Option Addr) (cb : Nat) (w : World), SR w A r → SR w B s → Calls Tryd.prog 27 #[.slice A r.length ca, .slice B s.length cb, .func (.func 28) #[] #[]] w fun v w' => v = .returned (.bool (smy r s)) ∧ Below w.heap.size w w'

set_option maxHeartbeats 8000000 in
theorem astSS1 (e f : SV) (hN : xsz e.es ≤ 4611686018427387904) (ih1 : EqSC e.ts) (ih2 : EqSC e.us) (A1 : Option Addr) (c1 : Nat) (A2 : Option Addr) (c2 : Nat) (A3 : Option Addr) (c3 : Nat) (B1 : Option Addr) (d1 : Nat) (B2 : Option Addr) (d2 : Nat) (B3 : Option Addr) (d3 : Nat) (w : World) (hx1 : XR w A1 e.es) (hy1 : XR w B1 f.es) (hx2 : SR w A2 e.ts) (hy2 : SR w B2 f.ts) (hx3 : SR w A3 e.us) (hy3 : SR w B3 f.us) : Calls Tryd.prog 28 #[sval e A1 c1 A2 c2 A3 c3, sval f B1 d1 B2 d2 B3 d3] w fun v w' => v = .returned (.bool (smy1 e f)) ∧ Below w.heap.size w w' := by
  have K0 := Lib.hid (TwoB.new w [.int .i64 e.k, .string ⟨e.x.toArray⟩, .slice A1 e.es.length c1, .slice A2 e.ts.length c2, .slice A3 e.us.length c3, .int .i64 e.l, .int .i64 e.c] [.int .i64 f.k, .string ⟨f.x.toArray⟩, .slice B1 f.es.length d1, .slice B2 f.ts.length d2, .slice B3 f.us.length d3, .int .i64 f.l, .int .i64 f.c] 37 37)
  have q1 := Lib.hid (fun W (h1 : XR W A1 e.es) (h2 : XR W B1 f.es) => astSX (xsz e.es) e.es (Nat.le_refl _) hN f.es A1 c1 B1 d1 W h1 h2)
  have q2 := Lib.hid (fun W (h1 : SR W A2 e.ts) (h2 : SR W B2 f.ts) => ih1 f.ts A2 c2 B2 d2 W h1 h2)
  have q3 := Lib.hid (fun W (h1 : SR W A3 e.us) (h2 : SR W B3 f.us) => ih2 f.us A3 c3 B3 d3 W h1 h2)
  have HL := Lib.hid (And.intro hx1 (And.intro hy1 (And.intro hx2 (And.intro hy2 (And.intro hx3 (hy3))))))
  have hV : Hid (smy1 e f = ((e.k == f.k) && ((e.x == f.x) && (smx e.es f.es && (smy e.ts f.ts && (smy e.us f.us)))))) := smy1_eq e f
  rw [hV.out]
  obtain ⟨v_k, hv_k⟩ : ∃ v, v = (e.k == f.k) := ⟨_, rfl⟩
  obtain ⟨v_x, hv_x⟩ : ∃ v, v = (e.x == f.x) := ⟨_, rfl⟩
  have ht : ((⟨e.x.toArray⟩ : ByteArray).toList == (⟨f.x.toArray⟩ : ByteArray).toList) = v_x := by rw [hv_x]; exact textB _ _
  obtain ⟨v_es, hv_es⟩ : ∃ v, v = smx e.es f.es := ⟨_, rfl⟩
  rw [← hv_es] at q1
  obtain ⟨v_ts, hv_ts⟩ : ∃ v, v = smy e.ts f.ts := ⟨_, rfl⟩
  rw [← hv_ts] at q2
  obtain ⟨v_us, hv_us⟩ : ∃ v, v = smy e.us f.us := ⟨_, rfl⟩
  rw [← hv_us] at q3
  rw [← hv_k, ← hv_x, ← hv_es, ← hv_ts, ← hv_us]
  replace hv_k := hv_k.symm
  clear hV hv_x hv_es hv_ts hv_us hx1 hy1 hx2 hy2 hx3 hy3 ih1 ih2 hN
  unfold sval
  generalize (⟨e.x.toArray⟩ : ByteArray) = xs at *
  generalize (⟨f.x.toArray⟩ : ByteArray) = ys at *
  generalize e.k = ek at *
  generalize f.k = fk at *
  generalize e.l = el at *
  generalize f.l = fl at *
  generalize e.c = ec at *
  generalize f.c = fc at *
  go_enter Tryd.func28, Tryd.ntmps28
  cases v_k with
  | false =>
    go_wp2_with fail
    go_ret
    exact ⟨rfl, K0.out.2.2⟩
  | true =>
  cases v_x with
  | false =>
    go_wp2_with fail
    go_ret
    exact ⟨rfl, K0.out.2.2⟩
  | true =>
  have p1 := q1.out _ (HL.out.1.step K0.out.2.2) (HL.out.2.1.step K0.out.2.2)
  go_wp2_with fail
  refine p1.mono ?_
  rintro e1 w1 ⟨rfl, hww1⟩
  have K1 := Lib.hid (K0.out.step hww1)
  clear p1 hww1
  have s1 := K1.out.1.seven
  have t1 := K1.out.2.1.seven
  cases v_es with
  | false =>
    go_wp2_with fail
    go_ret
    exact ⟨rfl, K1.out.2.2⟩
  | true =>
  have p2 := q2.out _ (HL.out.2.2.1.step K1.out.2.2) (HL.out.2.2.2.1.step K1.out.2.2)
  go_wp2_with fail
  refine p2.mono ?_
  rintro e1 w2 ⟨rfl, hww2⟩
  have K2 := Lib.hid (K1.out.step hww2)
  clear p2 hww2
  have s2 := K2.out.1.seven
  have t2 := K2.out.2.1.seven
  cases v_ts with
  | false =>
    go_wp2_with fail
    go_ret
    exact ⟨rfl, K2.out.2.2⟩
  | true =>
  have p3 := q3.out _ (HL.out.2.2.2.2.1.step K2.out.2.2) (HL.out.2.2.2.2.2.step K2.out.2.2)
  go_wp2_with fail
  refine p3.mono ?_
  rintro e1 w3 ⟨rfl, hww3⟩
  go_wp2_with fail
  go_ret
  exact ⟨by cases v_us <;> rfl, bth5 K2.out.2.2 hww3⟩

set_option maxHeartbeats 8000000 in
theorem astSS (N : Nat) : ∀ (r : List SV), ssz r ≤ N → N ≤ 4611686018427387904 → EqSC r := by
  induction N using Nat.strongRecOn with
  | ind N ih =>
  intro r hr hNN s A ca B cb w hx hy
  obtain ⟨b, hb⟩ : ∃ b, b = smy r s := ⟨_, rfl⟩
  rw [← hb]
  have HB := Lib.hid hb
  have hX := Lib.hid (And.intro hx hy)
  have hG := Lib.hid hr
  have IH := Lib.hid ih
  have hlen := ssz_len r
  by_cases hl : r.length = s.length
  · rw [← hl]
    have HL := Lib.hid hl
    obtain ⟨m, hm⟩ : ∃ m, m = r.length := ⟨_, rfl⟩
    have HM := Lib.hid hm
    rw [← hm] at hlen ⊢
    have hml : m ≤ 4611686018427387904 := by omega
    clear hb hx hy hr hlen ih hl hm
    go_enter Tryd.func27, Tryd.ntmps27
    go_wp2_with fail
    go_loopw [17] (fun v W => ∃ i : Nat, i ≤ m ∧ v = .int .i64 i ∧ Hid (∀ j a b, j < i → r[j]? = some a → s[j]? = some b → smy1 a b = true) ∧ Hid (Below w.heap.size w W)) (fun v _ => m - (intOf v).toNat)
    case atStart => exact ⟨0, by omega, rfl, fun j _ _ hj => absurd hj (by omega), Below.refl _ _⟩
    case round =>
      obtain ⟨i, hi, rfl, hst, hbw⟩ := hrel
      by_cases hlt : i < m
      · have hlt' : (i : Int) < m := by omega
        obtain ⟨ad, e, rfl, he, A1, c1, A2, c2, A3, c3, e0, e1, e2, e3, e4, e5, e6, hx1, hx2, hx3⟩ := (hX.out.1.step hbw.out).el (i := i) (by rw [← HM.out]; exact hlt)
        obtain ⟨ad2, f, rfl, hf, B1, d1, B2, d2, B3, d3, f0, f1, f2, f3, f4, f5, f6, hy1, hy2, hy3⟩ := (hX.out.2.step hbw.out).el (i := i) (by rw [← HL.out, ← HM.out]; exact hlt)
        have hb2 := Lib.hid (bth5 (bnew5 wr (.cells #[.int .i64 e.k, .string ⟨e.x.toArray⟩, .slice A1 e.es.length c1, .slice A2 e.ts.length c2, .slice A3 e.us.length c3, .int .i64 e.l, .int .i64 e.c] 37)) (bnew5 _ (.cells #[.int .i64 f.k, .string ⟨f.x.toArray⟩, .slice B1 f.es.length d1, .slice B2 f.ts.length d2, .slice B3 f.us.length d3, .int .i64 f.l, .int .i64 f.c] 37)))
        have hz := ssz_get he
        have hz3 := ssz1_eq e
        have hG2 := hG.out
        have hq := astSS1 e f (by omega) (IH.out (ssz e.ts) (by omega) e.ts (Nat.le_refl _) (by omega)) (IH.out (ssz e.us) (by omega) e.us (Nat.le_refl _) (by omega)) A1 c1 A2 c2 A3 c3 B1 d1 B2 d2 B3 d3 _ (hx1.step hb2.out) (hy1.step hb2.out) (hx2.step hb2.out) (hy2.step hb2.out) (hx3.step hb2.out) (hy3.step hb2.out)
        have HE := Lib.hid (And.intro he hf)
        have HST : Hid (smy1 e f = true → Hid (∀ j a b, j < i + 1 → r[j]? = some a → s[j]? = some b → smy1 a b = true)) := fun hr j a b hj ha hb => by
          rcases Nat.lt_or_ge j i with h | h
          · exact hst.out j a b h ha hb
          · obtain rfl : j = i := by omega
            have t1 := HE.out.1.symm.trans ha
            have t2 := HE.out.2.symm.trans hb
            injection t1 with t1
            injection t2 with t2
            rw [← t1, ← t2]; exact hr
        have HNO : Hid (smy1 e f = false → b = false) := fun hr => by rw [HB.out]; exact smy_noat HE.out.1 HE.out.2 hr
        unfold sval at hq
        clear he hf hx1 hx2 hx3 hy1 hy2 hy3 hz hz3 hG2 hst HE HB
        generalize smy1 e f = sm at *
        generalize e.es.length = m0 at *
        generalize f.es.length = n0 at *
        generalize e.ts.length = m1 at *
        generalize f.ts.length = n1 at *
        generalize e.us.length = m2 at *
        generalize f.us.length = n2 at *
        generalize e.k = ek at *
        generalize f.k = fk at *
        generalize e.l = el at *
        generalize f.l = fl at *
        generalize e.c = ec at *
        generalize f.c = fc at *
        generalize (⟨e.x.toArray⟩ : ByteArray) = xs at *
        generalize (⟨f.x.toArray⟩ : ByteArray) = ys at *
        have hba := World.block_lt_of_cell? wr _ f0
        go_wp2_with fail
        refine hq.mono ?_
        rintro v1 w1 ⟨rfl, hw1⟩
        have hbn := Lib.hid (bth5 (bth5 hbw.out hb2.out) hw1)
        clear hq
        cases sm with
        | false =>
          have hv := Lib.hid (HNO.out rfl)
          go_wp2_with fail
          go_ret
          exact ⟨by rw [hv.out]; rfl, hbn.out⟩
        | true =>
          have hst2 := HST.out rfl
          go_wp2_with fail
          exact ⟨⟨i + 1, by omega, by go_num, hst2, hbn⟩, by simp [intOf]; omega⟩
      · obtain rfl : i = m := by omega
        have hlt' : ¬ (i : Int) < i := by omega
        have hv : Hid (b = true) := by
          show b = _
          rw [HB.out]
          exact smy_yes HL.out fun j a b hj => hst.out j a b (by rw [HM.out]; exact hj)
        clear HB hst
        go_wp2_with fail
        go_ret
        exact ⟨by rw [hv.out]; rfl, hbw.out⟩
  · have hv : Hid (b = false) := by show b = _; rw [HB.out]; exact smy_nolen hl
    have e1 : ((r.length : Int) == s.length) = false := by simp; omega
    have e2 : ¬ (r.length : Int) = s.length := by omega
    clear hb hx hy hr hlen HB
    generalize r.length = m at *
    generalize s.length = m' at *
    go_enter Tryd.func27, Tryd.ntmps27
    go_wp2_with fail
    go_ret
    exact ⟨by rw [hv.out]; rfl, Below.refl _ _⟩

set_option maxHeartbeats 8000000 in
theorem astSD1 (e f : DV) (hN : ssz e.body ≤ 4611686018427387904) (hP : e.ps.length ≤ 4611686018427387904) (A1 : Option Addr) (c1 : Nat) (A2 : Option Addr) (c2 : Nat) (B1 : Option Addr) (d1 : Nat) (B2 : Option Addr) (d2 : Nat) (w : World) (hx1 : RowS w A1 e.ps.length e.ps) (hy1 : RowS w B1 f.ps.length f.ps) (hx2 : SR w A2 e.body) (hy2 : SR w B2 f.body) : Calls Tryd.prog 26 #[dval e A1 c1 A2 c2, dval f B1 d1 B2 d2] w fun v w' => v = .returned (.bool (smd1 e f)) ∧ Below w.heap.size w w' := by
  have K0 := Lib.hid (TwoB.new w [.int .i64 e.k, .string ⟨e.x.toArray⟩, .int .i64 e.lo, .int .i64 e.hi, .int .i64 e.sz, .slice A1 e.ps.length c1, .slice A2 e.body.length c2, .int .i64 e.l, .int .i64 e.c] [.int .i64 f.k, .string ⟨f.x.toArray⟩, .int .i64 f.lo, .int .i64 f.hi, .int .i64 f.sz, .slice B1 f.ps.length d1, .slice B2 f.body.length d2, .int .i64 f.l, .int .i64 f.c] 47 47)
  have q1 := Lib.hid (fun W (h1 : RowS W A1 e.ps.length e.ps) (h2 : RowS W B1 f.ps.length f.ps) => astEqualT (c := c1) (c' := d1) h1 h2 hP)
  have q2 := Lib.hid (fun W (h1 : SR W A2 e.body) (h2 : SR W B2 f.body) => astSS (ssz e.body) e.body (Nat.le_refl _) hN f.body A2 c2 B2 d2 W h1 h2)
  have HL := Lib.hid (And.intro hx1 (And.intro hy1 (And.intro hx2 (hy2))))
  have hV : Hid (smd1 e f = ((e.k == f.k) && ((e.x == f.x) && ((e.lo == f.lo) && ((e.hi == f.hi) && ((e.sz == f.sz) && ((e.ps == f.ps) && (smy e.body f.body)))))))) := rfl
  rw [hV.out]
  obtain ⟨v_k, hv_k⟩ : ∃ v, v = (e.k == f.k) := ⟨_, rfl⟩
  obtain ⟨v_x, hv_x⟩ : ∃ v, v = (e.x == f.x) := ⟨_, rfl⟩
  have ht : ((⟨e.x.toArray⟩ : ByteArray).toList == (⟨f.x.toArray⟩ : ByteArray).toList) = v_x := by rw [hv_x]; exact textB _ _
  obtain ⟨v_lo, hv_lo⟩ : ∃ v, v = (e.lo == f.lo) := ⟨_, rfl⟩
  obtain ⟨v_hi, hv_hi⟩ : ∃ v, v = (e.hi == f.hi) := ⟨_, rfl⟩
  obtain ⟨v_sz, hv_sz⟩ : ∃ v, v = (e.sz == f.sz) := ⟨_, rfl⟩
  obtain ⟨v_ps, hv_ps⟩ : ∃ v, v = (e.ps == f.ps) := ⟨_, rfl⟩
  rw [← hv_ps] at q1
  obtain ⟨v_body, hv_body⟩ : ∃ v, v = smy e.body f.body := ⟨_, rfl⟩
  rw [← hv_body] at q2
  rw [← hv_k, ← hv_x, ← hv_lo, ← hv_hi, ← hv_sz, ← hv_ps, ← hv_body]
  replace hv_k := hv_k.symm
  replace hv_lo := hv_lo.symm
  replace hv_hi := hv_hi.symm
  replace hv_sz := hv_sz.symm
  clear hV hv_x hv_ps hv_body hx1 hy1 hx2 hy2 hN hP
  unfold dval
  generalize (⟨e.x.toArray⟩ : ByteArray) = xs at *
  generalize (⟨f.x.toArray⟩ : ByteArray) = ys at *
  generalize e.k = ek at *
  generalize f.k = fk at *
  generalize e.lo = elo at *
  generalize f.lo = flo at *
  generalize e.hi = ehi at *
  generalize f.hi = fhi at *
  generalize e.sz = esz at *
  generalize f.sz = fsz at *
  generalize e.l = el at *
  generalize f.l = fl at *
  generalize e.c = ec at *
  generalize f.c = fc at *
  go_enter Tryd.func26, Tryd.ntmps26
  cases v_k with
  | false =>
    go_wp2_with fail
    go_ret
    exact ⟨rfl, K0.out.2.2⟩
  | true =>
  cases v_x with
  | false =>
    go_wp2_with fail
    go_ret
    exact ⟨rfl, K0.out.2.2⟩
  | true =>
  cases v_lo with
  | false =>
    go_wp2_with fail
    go_ret
    exact ⟨rfl, K0.out.2.2⟩
  | true =>
  cases v_hi with
  | false =>
    go_wp2_with fail
    go_ret
    exact ⟨rfl, K0.out.2.2⟩
  | true =>
  cases v_sz with
  | false =>
    go_wp2_with fail
    go_ret
    exact ⟨rfl, K0.out.2.2⟩
  | true =>
  have p1 := q1.out _ (HL.out.1.below K0.out.2.2) (HL.out.2.1.below K0.out.2.2)
  go_wp2_with fail
  refine p1.mono ?_
  rintro e1 w1 ⟨rfl, hww1⟩
  have K1 := Lib.hid (K0.out.step hww1)
  clear p1 hww1
  have s1 := K1.out.1.nine
  have t1 := K1.out.2.1.nine
  cases v_ps with
  | false =>
    go_wp2_with fail
    go_ret
    exact ⟨rfl, K1.out.2.2⟩
  | true =>
  have p2 := q2.out _ (HL.out.2.2.1.step K1.out.2.2) (HL.out.2.2.2.step K1.out.2.2)
  go_wp2_with fail
  refine p2.mono ?_
  rintro e1 w2 ⟨rfl, hww2⟩
  go_wp2_with fail
  go_ret
  exact ⟨by cases v_body <;> rfl, bth5 K1.out.2.2 hww2⟩

set_option maxHeartbeats 8000000 in
theorem astSD (r s : List DV) (hr : dbk r ≤ 4611686018427387904) (A : Option Addr) (ca : Nat) (B : Option Addr) (cb : Nat) (w : World) (hx : DR w A r) (hy : DR w B s) : Calls Tryd.prog 25 #[.slice A r.length ca, .slice B s.length cb, .func (.func 26) #[] #[]] w fun v w' => v = .returned (.bool (smd r s)) ∧ Below w.heap.size w w' := by
  obtain ⟨b, hb⟩ : ∃ b, b = smd r s := ⟨_, rfl⟩
  rw [← hb]
  have HB := Lib.hid hb
  have hX := Lib.hid (And.intro hx hy)
  have hG := Lib.hid hr
  have hlen := dbk_len r
  by_cases hl : r.length = s.length
  · rw [← hl]
    have HL := Lib.hid hl
    obtain ⟨m, hm⟩ : ∃ m, m = r.length := ⟨_, rfl⟩
    have HM := Lib.hid hm
    rw [← hm] at hlen ⊢
    have hml : m ≤ 4611686018427387904 := by omega
    clear hb hx hy hr hlen hl hm
    go_enter Tryd.func25, Tryd.ntmps25
    go_wp2_with fail
    go_loopw [17] (fun v W => ∃ i : Nat, i ≤ m ∧ v = .int .i64 i ∧ Hid (∀ j a b, j < i → r[j]? = some a → s[j]? = some b → smd1 a b = true) ∧ Hid (Below w.heap.size w W)) (fun v _ => m - (intOf v).toNat)
    case atStart => exact ⟨0, by omega, rfl, fun j _ _ hj => absurd hj (by omega), Below.refl _ _⟩
    case round =>
      obtain ⟨i, hi, rfl, hst, hbw⟩ := hrel
      by_cases hlt : i < m
      · have hlt' : (i : Int) < m := by omega
        obtain ⟨ad, e, rfl, he, A1, c1, A2, c2, e0, e1, e2, e3, e4, e5, e6, e7, e8, hx1, hx2⟩ := (hX.out.1.step hbw.out).el (i := i) (by rw [← HM.out]; exact hlt)
        obtain ⟨ad2, f, rfl, hf, B1, d1, B2, d2, f0, f1, f2, f3, f4, f5, f6, f7, f8, hy1, hy2⟩ := (hX.out.2.step hbw.out).el (i := i) (by rw [← HL.out, ← HM.out]; exact hlt)
        have hb2 := Lib.hid (bth5 (bnew5 wr (.cells #[.int .i64 e.k, .string ⟨e.x.toArray⟩, .int .i64 e.lo, .int .i64 e.hi, .int .i64 e.sz, .slice A1 e.ps.length c1, .slice A2 e.body.length c2, .int .i64 e.l, .int .i64 e.c] 47)) (bnew5 _ (.cells #[.int .i64 f.k, .string ⟨f.x.toArray⟩, .int .i64 f.lo, .int .i64 f.hi, .int .i64 f.sz, .slice B1 f.ps.length d1, .slice B2 f.body.length d2, .int .i64 f.l, .int .i64 f.c] 47)))
        have hz := dbk_get he
        have hz3 : dbk1 e = 1 + e.x.length + pbk e.ps + sbk e.body := rfl
        have hz4 := ssz_bk e.body
        have hz5 := pbk_len e.ps
        have hG2 := hG.out
        have hq := astSD1 e f (by omega) (by omega) A1 c1 A2 c2 B1 d1 B2 d2 _ (hx1.below hb2.out) (hy1.below hb2.out) (hx2.step hb2.out) (hy2.step hb2.out)
        have HE := Lib.hid (And.intro he hf)
        have HST : Hid (smd1 e f = true → Hid (∀ j a b, j < i + 1 → r[j]? = some a → s[j]? = some b → smd1 a b = true)) := fun hr j a b hj ha hb => by
          rcases Nat.lt_or_ge j i with h | h
          · exact hst.out j a b h ha hb
          · obtain rfl : j = i := by omega
            have t1 := HE.out.1.symm.trans ha
            have t2 := HE.out.2.symm.trans hb
            injection t1 with t1
            injection t2 with t2
            rw [← t1, ← t2]; exact hr
        have HNO : Hid (smd1 e f = false → b = false) := fun hr => by rw [HB.out]; exact smd_noat HE.out.1 HE.out.2 hr
        unfold dval at hq
        clear he hf hx1 hx2 hy1 hy2 hz hz3 hz4 hz5 hG2 hst HE HB
        generalize smd1 e f = sm at *
        generalize e.ps.length = m0 at *
        generalize f.ps.length = n0 at *
        generalize e.body.length = m1 at *
        generalize f.body.length = n1 at *
        generalize e.k = ek at *
        generalize f.k = fk at *
        generalize e.lo = elo at *
        generalize f.lo = flo at *
        generalize e.hi = ehi at *
        generalize f.hi = fhi at *
        generalize e.sz = esz at *
        generalize f.sz = fsz at *
        generalize e.l = el at *
        generalize f.l = fl at *
        generalize e.c = ec at *
        generalize f.c = fc at *
        generalize (⟨e.x.toArray⟩ : ByteArray) = xs at *
        generalize (⟨f.x.toArray⟩ : ByteArray) = ys at *
        have hba := World.block_lt_of_cell? wr _ f0
        go_wp2_with fail
        refine hq.mono ?_
        rintro v1 w1 ⟨rfl, hw1⟩
        have hbn := Lib.hid (bth5 (bth5 hbw.out hb2.out) hw1)
        clear hq
        cases sm with
        | false =>
          have hv := Lib.hid (HNO.out rfl)
          go_wp2_with fail
          go_ret
          exact ⟨by rw [hv.out]; rfl, hbn.out⟩
        | true =>
          have hst2 := HST.out rfl
          go_wp2_with fail
          exact ⟨⟨i + 1, by omega, by go_num, hst2, hbn⟩, by simp [intOf]; omega⟩
      · obtain rfl : i = m := by omega
        have hlt' : ¬ (i : Int) < i := by omega
        have hv : Hid (b = true) := by
          show b = _
          rw [HB.out]
          exact smd_yes HL.out fun j a b hj => hst.out j a b (by rw [HM.out]; exact hj)
        clear HB hst
        go_wp2_with fail
        go_ret
        exact ⟨by rw [hv.out]; rfl, hbw.out⟩
  · have hv : Hid (b = false) := by show b = _; rw [HB.out]; exact smd_nolen hl
    have e1 : ((r.length : Int) == s.length) = false := by simp; omega
    have e2 : ¬ (r.length : Int) = s.length := by omega
    clear hb hx hy hr hlen HB
    generalize r.length = m at *
    generalize s.length = m' at *
    go_enter Tryd.func25, Tryd.ntmps25
    go_wp2_with fail
    go_ret
    exact ⟨by rw [hv.out]; rfl, Below.refl _ _⟩

set_option maxHeartbeats 8000000 in
theorem astSame6 (r s : List DV) (mn mm : List SV) (hs : ssz mn + dbk r ≤ 4611686018427387904) (A : Option Addr) (ca : Nat) (B : Option Addr) (cb : Nat) (A' : Option Addr) (ca' : Nat) (B' : Option Addr) (cb' : Nat) (w : World) (hx : DR w A r) (hy : SR w B mn) (hx' : DR w A' s) (hy' : SR w B' mm) : Calls Tryd.prog 8 #[pval A r.length ca B mn.length cb, pval A' s.length ca' B' mm.length cb'] w fun v w' => v = .returned (.bool (smd r s && smy mn mm)) ∧ Below w.heap.size w w' := by
  have K0 := Lib.hid (TwoB.new w [.slice A r.length ca, .slice B mn.length cb] [.slice A' s.length ca', .slice B' mm.length cb'] 25 25)
  have p1 := astSD r s (by omega) A ca A' ca' _ (hx.step K0.out.2.2) (hx'.step K0.out.2.2)
  have q2 := Lib.hid (fun W (h1 : SR W B mn) (h2 : SR W B' mm) => astSS (ssz mn) mn (Nat.le_refl _) (by omega) mm B cb B' cb' W h1 h2)
  have HL := Lib.hid (And.intro hy hy')
  obtain ⟨v1, hv1⟩ : ∃ v, v = smd r s := ⟨_, rfl⟩
  obtain ⟨v2, hv2⟩ : ∃ v, v = smy mn mm := ⟨_, rfl⟩
  rw [← hv1] at p1
  rw [← hv2] at q2
  rw [← hv1, ← hv2]
  unfold pval
  clear hv1 hv2 hx hx' hy hy' hs
  generalize r.length = n1 at *
  generalize s.length = n2 at *
  generalize mn.length = n3 at *
  generalize mm.length = n4 at *
  go_enter Tryd.func8, Tryd.ntmps8
  go_wp2_with fail
  refine p1.mono ?_
  rintro e1 w1 ⟨rfl, hww1⟩
  have K1 := Lib.hid (K0.out.step hww1)
  clear p1 hww1
  have s1 := K1.out.1.two
  have t1 := K1.out.2.1.two
  cases v1 with
  | false =>
    go_wp2_with fail
    go_ret
    exact ⟨rfl, K1.out.2.2⟩
  | true =>
  have p2 := q2.out _ (HL.out.1.step K1.out.2.2) (HL.out.2.step K1.out.2.2)
  go_wp2_with fail
  refine p2.mono ?_
  rintro e1 w2 ⟨rfl, hww2⟩
  go_wp2_with fail
  go_ret
  exact ⟨by cases v2 <;> rfl, bth5 K1.out.2.2 hww2⟩
end
end Go.Proofs.YtejifkeeihkcjaaDoor
