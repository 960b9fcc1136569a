/- The contracts of deci's Whole and ParseWhole, over the library's. -/
import Derived.Test.YthcglobehoaocaaDoorDeciE
import Derived.Test.YthcglobehoaocaaDoorShelf
import Derived.Lib.LaidTab
import Derived.WalkSmall
import Derived.Lib.ParseIntB
namespace Go.Proofs.YthcglobehoaocaaDoor
open Go.RowKit

/-- What the library's variables hold, as the program's text lays them. -/
structure Laid (w : World) : Prop where
  big : 2 < w.heap.size ∧ 3 < w.heap.size ∧ 4 < w.heap.size
  tab : Lib.TabIs Tryd.prog w "internal/strconv.uint64pow10" .u64 Lib.pow10Tab
  syn : ∃ tp p, w.var? Tryd.prog "strconv.ErrSyntax" = some #[.iface tp p]
  rng : ∃ tp p, w.var? Tryd.prog "strconv.ErrRange" = some #[.iface tp p]
theorem gTab : Tryd.prog.globalNamed "internal/strconv.uint64pow10" = some 2 := by kernel_rfl
theorem gSyn : Tryd.prog.globalNamed "strconv.ErrSyntax" = some 3 := by kernel_rfl
theorem gRng : Tryd.prog.globalNamed "strconv.ErrRange" = some 4 := by kernel_rfl
theorem Laid.below {w w' : World} (h : Laid w) (hb : Below w.heap.size w w') : Laid w' := by
  obtain ⟨k1, k2, k3⟩ := h.big
  have hs := hb.size
  obtain ⟨tp, p, h1⟩ := h.syn
  obtain ⟨tq, q, h2⟩ := h.rng
  exact ⟨⟨by omega, by omega, by omega⟩, var?_below hb gTab (by omega) h.tab, ⟨tp, p, var?_below hb gSyn (by omega) h1⟩, ⟨tq, q, var?_below hb gRng (by omega) h2⟩⟩

theorem below_grow (w : World) (k : Nat) (os : Array Obj) : Below w.heap.size w (Go.Sort.grow (w.drewN k) os) :=
  ⟨rfl, rfl, rfl, by simp [Go.Sort.grow], fun i hi => by
    show (w.heap ++ os)[i]? = w.heap[i]?
    rw [Array.getElem?_append_left hi]⟩

set_option maxHeartbeats 400000 in
theorem deciWhole (n : Int) (h0 : -9223372036854775808 ≤ n) (h1 : n ≤ 9223372036854775807) (w : World) (hL : Laid w) :
    Calls Tryd.prog 18 #[.int .i64 n] w fun e w' => e = .returned (.string ⟨(Lib.itoa n).toArray⟩) ∧ Below w.heap.size w w' := by
  have hq := Tryd.strconv_FormatInt_10 n h0 h1 w hL.tab
  generalize (⟨(Lib.itoa n).toArray⟩ : ByteArray) = S at *
  clear h0 h1
  go_enter Tryd.func18, Tryd.ntmps18
  go_wp2_with fail
  refine hq.mono ?_
  rintro e w1 ⟨rfl, k, os, rfl⟩
  go_wp2_with fail
  go_ret
  exact ⟨rfl, below_grow w k os⟩

/-- The whole number that a text spells. -/
def spells (l : List UInt8) (v : Int) : Prop := Lib.parseIntB 64 l = .ok v ∧ Lib.itoa v = l

theorem bytesOf (s : ByteArray) : (⟨s.data.toList.toArray⟩ : ByteArray) = s := by simp
theorem below_bytes (w : World) (t : ByteArray) : Below w.heap.size w (Lib.bytesWorld w 5 t) := Lib.bytesWorld_below _ _ _

set_option maxHeartbeats 1000000 in
theorem parseWhole_yes (s : ByteArray) (v : Int) (w : World) (hL : Laid w) (hs : s.size ≤ 100000000000) (h : spells s.data.toList v) (h0 : -9223372036854775808 ≤ v) (h1 : v ≤ 9223372036854775807) :
    Calls Tryd.prog 22 #[.string s] w fun e w' => e = .returned (.tuple #[.int .i64 v, .int .i64 0]) ∧ Below w.heap.size w w' := by
  have hp := Tryd.strconv_ParseInt_10_at64_ok s (by omega) v h.1 w
  have hw := fun w hL => deciWhole v h0 h1 w hL
  rw [h.2, bytesOf] at hw
  clear h h0 h1
  go_enter Tryd.func22, Tryd.ntmps22
  go_wp2_with fail
  refine hp.mono ?_
  rintro e w1 ⟨rfl, hw1⟩
  have hb1 : Below w.heap.size w w1 := by
    rcases hw1 with rfl | ⟨t, rfl⟩
    · exact Below.refl _ _
    · exact below_bytes w t
  clear hw1
  go_wp2_with fail
  refine (hw _ (hL.below hb1)).mono ?_
  rintro e w2 ⟨rfl, hb2⟩
  go_wp2_with fail
  go_ret2
  exact ⟨rfl, hb1.trans (hb2.mono hb1.size)⟩

theorem str_ne {a b : ByteArray} (h : a ≠ b) : (a.toList == b.toList) = false := by
  simp only [beq_eq_false_iff_ne, ne_eq, ByteArray.toList_eq]
  intro e
  apply h
  cases a
  cases b
  simpa using e
theorem str_eq (a : ByteArray) : (a.toList == a.toList) = true := by simp

set_option maxHeartbeats 1000000 in
theorem parseWhole_other (s : ByteArray) (v : Int) (w : World) (hL : Laid w) (hs : s.size ≤ 100000000000) (h : Lib.parseIntB 64 s.data.toList = .ok v) (hne : (⟨(Lib.itoa v).toArray⟩ : ByteArray) ≠ s) (h0 : -9223372036854775808 ≤ v) (h1 : v ≤ 9223372036854775807) :
    Calls Tryd.prog 22 #[.string s] w fun e w' => e = .returned (.tuple #[.int .i64 0, .int .i64 20]) ∧ Below w.heap.size w w' := by
  have hp := Tryd.strconv_ParseInt_10_at64_ok s (by omega) v h w
  have hw := fun w hL => deciWhole v h0 h1 w hL
  generalize (⟨(Lib.itoa v).toArray⟩ : ByteArray) = S at *
  have hbe := str_ne hne
  clear h h0 h1
  go_enter Tryd.func22, Tryd.ntmps22
  go_wp2_with fail
  refine hp.mono ?_
  rintro e w1 ⟨rfl, hw1⟩
  have hb1 : Below w.heap.size w w1 := by
    rcases hw1 with rfl | ⟨t, rfl⟩
    · exact Below.refl _ _
    · exact below_bytes w t
  clear hw1
  go_wp2_with fail
  refine (hw _ (hL.below hb1)).mono ?_
  rintro e w2 ⟨rfl, hb2⟩
  go_wp2_with fail
  go_ret2
  exact ⟨rfl, hb1.trans (hb2.mono hb1.size)⟩

set_option maxHeartbeats 1000000 in
theorem parseWhole_err (s : ByteArray) (n : Int) (w : World)
    (hp : Calls Tryd.prog 47 #[.string s, .int .i64 10, .int .i64 64] w fun e w' => ∃ N tp p, e = .returned (.tuple #[.int .i64 n, .iface 112 (.pointer (some ⟨N, 0, none⟩))]) ∧ w.heap.size ≤ N ∧ w'.heap[N]? = some (.cells #[.string ⟨#[80, 97, 114, 115, 101, 73, 110, 116]⟩, .string s, .iface tp p] 124 (0, 0)) ∧ Below w.heap.size w w') :
    Calls Tryd.prog 22 #[.string s] w fun e w' => e = .returned (.tuple #[.int .i64 0, .int .i64 20]) ∧ Below w.heap.size w w' := by
  go_enter Tryd.func22, Tryd.ntmps22
  go_wp2_with fail
  refine hp.mono ?_
  rintro e w1 ⟨N, tp, p, rfl, hN, hc, hb1⟩
  clear hc hN
  go_wp2_with fail
  go_ret2
  exact ⟨rfl, hb1⟩

theorem parseWhole_no (s : ByteArray) (w : World) (hL : Laid w) (hs : s.size ≤ 100000000000) (h : ¬ ∃ v, spells s.data.toList v) :
    Calls Tryd.prog 22 #[.string s] w fun e w' => e = .returned (.tuple #[.int .i64 0, .int .i64 20]) ∧ Below w.heap.size w w' := by
  by_cases hok : ∃ v, Lib.parseIntB 64 s.data.toList = .ok v
  · obtain ⟨v, hp⟩ := hok
    have hb := Lib.parseIntB_bounds hp
    refine parseWhole_other s v w hL hs hp (fun e => h ⟨v, hp, ?_⟩) (by omega) (by omega)
    have := congrArg (fun b : ByteArray => b.data.toList) e
    simpa using this
  · by_cases hp : Lib.parseIntB 64 s.data.toList = .range
    · obtain ⟨tp, p, hv⟩ := hL.rng
      refine parseWhole_err s (Lib.intSat 64 s.data.toList) w ((Tryd.strconv_ParseInt_10_at64_range_var s (by omega) hp tp p w hv).mono ?_)
      rintro e w' ⟨N, h1, h2, h3, h4⟩
      exact ⟨N, tp, p, h1, h2, h3, h4⟩
    · obtain ⟨tp, p, hv⟩ := hL.syn
      refine parseWhole_err s 0 w ((Tryd.strconv_ParseInt_10_at64_bad_var s (by omega) (fun v e => hok ⟨v, e⟩) hp tp p w hv).mono ?_)
      rintro e w' ⟨N, h1, h2, h3, h4⟩
      exact ⟨N, tp, p, h1, h2, h3, h4⟩
end Go.Proofs.YthcglobehoaocaaDoor
