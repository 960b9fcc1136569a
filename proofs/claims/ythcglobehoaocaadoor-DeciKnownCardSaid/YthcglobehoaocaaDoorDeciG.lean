/- The contracts of deci's areDigits and rowValue. -/
import Derived.Test.YthcglobehoaocaaDoorDeciF
namespace Go.Proofs.YthcglobehoaocaaDoor
open Go.RowKit

/-- A byte that is a decimal digit. -/
def isDig (c : UInt8) : Prop := 48 ≤ c.toNat ∧ c.toNat ≤ 57
instance (c : UInt8) : Decidable (isDig c) := inferInstanceAs (Decidable (_ ∧ _))

theorem dig_next (w : World) (s : ByteArray) (pos : Nat) (h : pos < s.size) (hd : isDig (s[pos]'h)) : ∀ ty, (Instr.next (.pointer (some ⟨w.heap.size, 0, none⟩)) true ty).run Tryd.prog (w.iter s pos) = .ok (.tuple #[.bool true, .int .i64 pos, .int .i32 (s[pos]'h).toNat]) (w.iter s (pos + 1)) :=
  fun ty => run_next_ascii w s pos ty h (by have := hd.2; omega)
theorem nodig_next (w : World) (s : ByteArray) (pos : Nat) (h : pos < s.size) (hd : ¬ isDig (s[pos]'h)) : ∃ r n : Nat, (r < 48 ∨ 57 < r) ∧ r ≤ 2147483647 ∧ ∀ ty, (Instr.next (.pointer (some ⟨w.heap.size, 0, none⟩)) true ty).run Tryd.prog (w.iter s pos) = .ok (.tuple #[.bool true, .int .i64 pos, .int .i32 (r : Int)]) (w.iter s n) := by
  refine ⟨(Utf8.decode s pos).1, pos + (Utf8.decode s pos).2, ?_, decode_le s pos, fun ty => run_next_any w s pos ty h⟩
  by_cases ha : (s[pos]'h).toNat < 128
  · rw [decode_ascii s pos h ha]
    unfold isDig at hd
    simp only
    omega
  · have := (decode_high s pos h (by omega)).1
    omega

theorem iter_below (w : World) (s : ByteArray) (pos : Nat) : Below w.heap.size w (w.iter s pos) := (Below.refl _ _).alloc (Nat.le_refl _) _

set_option maxHeartbeats 1000000 in
theorem areDigits_bad (s : ByteArray) (w : World) (i : Nat) (hi : i < s.size) (hbad : ¬ isDig (s[i]'hi)) :
    Calls Tryd.prog 41 #[.string s] w fun e w' => e = .returned (.bool false) ∧ Below w.heap.size w w' := by
  go_enter Tryd.func41, Tryd.ntmps41
  go_wp2_with fail
  go_loopw [] (fun wr => ∃ pos : Nat, pos ≤ i ∧ wr = w.iter s pos) (fun wr => s.size - wr.iterPos w.heap.size)
  case atStart => exact ⟨0, by omega, rfl⟩
  case round =>
    obtain ⟨pos, hp, rfl⟩ := hrel
    have hps : pos < s.size := by omega
    by_cases hd : isDig (s[pos]'hps)
    · have hne : pos ≠ i := by
        intro e
        subst e
        exact hbad hd
      have hnx := dig_next w s pos hps hd
      have h1 := hd.1
      have h2 := hd.2
      have hm : Hid (s.size - (pos + 1) < s.size - pos) := by show _ < _; omega
      obtain ⟨ci, hci⟩ : ∃ ci : Int, ci = (((s[pos]'hps).toNat : Nat) : Int) := ⟨_, rfl⟩
      rw [← hci] at hnx
      have h1' : (48 : Int) ≤ ci := by omega
      have h2' : ci ≤ 57 := by omega
      clear h1 h2 hd hbad hci
      go_wp2_with fail
      go_roundw
      case rel => exact ⟨pos + 1, by omega, rfl⟩
      case measure => simpa using hm.out
    · obtain ⟨r, n, hr, hr2, hnx⟩ := nodig_next w s pos hps hd
      obtain ⟨ri, hri⟩ : ∃ ri : Int, ri = (r : Int) := ⟨_, rfl⟩
      rw [← hri] at hnx
      have hr' : ri < 48 ∨ (¬ ri < 48 ∧ 57 < ri) := by omega
      clear hr hr2 hri hbad hd
      rcases hr' with h | ⟨h, h2⟩
      · go_wp2_with fail
        go_ret
        exact ⟨rfl, iter_below w s n⟩
      · go_wp2_with fail
        go_ret
        exact ⟨rfl, iter_below w s n⟩

/-- What is told of a row of digits. -/
def lead (s : ByteArray) (b : Bool) : Prop :=
  ((s.toList == [48]) = true ∧ b = true) ∨ ((s.toList == [48]) = false ∧ s.toList.isEmpty = true ∧ b = false) ∨
    ((s.toList == [48]) = false ∧ s.toList.isEmpty = false ∧ ∃ h : 0 < s.size, ((((s[0]'h).toNat : Nat) : Int) != 48) = b)

set_option maxHeartbeats 1000000 in
theorem areDigits_good (s : ByteArray) (b : Bool) (w : World) (hgood : ∀ i (hi : i < s.size), isDig (s[i]'hi)) (hb : lead s b) :
    Calls Tryd.prog 41 #[.string s] w fun e w' => e = .returned (.bool b) ∧ Below w.heap.size w w' := by
  go_enter Tryd.func41, Tryd.ntmps41
  go_wp2_with fail
  go_loopw [] (fun wr => ∃ pos : Nat, pos ≤ s.size ∧ wr = w.iter s pos) (fun wr => s.size - wr.iterPos w.heap.size)
  case atStart => exact ⟨0, by omega, rfl⟩
  case round =>
    obtain ⟨pos, hp, rfl⟩ := hrel
    by_cases hps : pos < s.size
    · have hd := hgood pos hps
      have hnx := dig_next w s pos hps hd
      have h1 := hd.1
      have h2 := hd.2
      have hm : Hid (s.size - (pos + 1) < s.size - pos) := by show _ < _; omega
      obtain ⟨ci, hci⟩ : ∃ ci : Int, ci = (((s[pos]'hps).toNat : Nat) : Int) := ⟨_, rfl⟩
      rw [← hci] at hnx
      have h1' : (48 : Int) ≤ ci := by omega
      have h2' : ci ≤ 57 := by omega
      clear h1 h2 hd hgood hci hb
      go_wp2_with fail
      go_roundw
      case rel => exact ⟨pos + 1, by omega, rfl⟩
      case measure => simpa using hm.out
    · have hnx : ∀ ty, (Instr.next (.pointer (some ⟨w.heap.size, 0, none⟩)) true ty).run Tryd.prog (w.iter s pos) = _ := fun ty => run_next_end w s pos ty hps
      have hI := Lib.hid (iter_below w s pos)
      clear hgood
      rcases hb with ⟨h1, rfl⟩ | ⟨h1, h2, rfl⟩ | ⟨h1, h2, h3, h4⟩
      · go_wp2_with fail
        go_ret
        exact ⟨rfl, hI.out⟩
      · go_wp2_with fail
        go_ret
        exact ⟨rfl, hI.out⟩
      · have H4 := Lib.hid h4
        clear h4
        go_wp2_with fail
        go_ret
        exact ⟨congrArg (fun b => Ending.returned (.bool b)) H4.out, hI.out⟩

/-- What a row of digits counts. -/
def dval (l : List UInt8) : Nat := l.foldl (fun a c => a * 10 + (c.toNat - 48)) 0
theorem dval_snoc (l : List UInt8) (c : UInt8) : dval (l ++ [c]) = dval l * 10 + (c.toNat - 48) := by simp [dval]
theorem dvalA_lt : ∀ (l : List UInt8) (a : Nat), (∀ c ∈ l, isDig c) → l.foldl (fun a c => a * 10 + (c.toNat - 48)) a < (a + 1) * 10 ^ l.length
  | [], a, _ => by simp
  | c :: l, a, h => by
    have h1 := dvalA_lt l (a * 10 + (c.toNat - 48)) fun x hx => h x (List.mem_cons_of_mem _ hx)
    have h2 := (h c List.mem_cons_self).2
    rw [List.foldl_cons, List.length_cons, Nat.pow_succ]
    refine Nat.lt_of_lt_of_le h1 ?_
    rw [Nat.mul_comm (10 ^ l.length), ← Nat.mul_assoc]
    exact Nat.mul_le_mul_right _ (by omega)
theorem dval_lt (l : List UInt8) (h : ∀ c ∈ l, isDig c) : dval l < 10 ^ l.length := by
  have := dvalA_lt l 0 h
  simpa [dval] using this

set_option maxHeartbeats 1000000 in
theorem rowValue (s : ByteArray) (w : World) (hgood : ∀ i (hi : i < s.size), isDig (s[i]'hi)) (hs : s.size ≤ 19) :
    Calls Tryd.prog 44 #[.string s] w fun e w' => e = .returned (.int .u64 ((dval s.data.toList : Nat) : Int)) ∧ Below w.heap.size w w' := by
  have hl : s.data.toList.length = s.size := Array.length_toList
  go_enter Tryd.func44, Tryd.ntmps44
  go_wp2_with fail
  go_loopw [2] (fun v wr => ∃ pos : Nat, pos ≤ s.size ∧ v = .int .u64 ((dval (s.data.toList.take pos) : Nat) : Int) ∧ wr = w.iter s pos) (fun _ wr => s.size - wr.iterPos w.heap.size)
  case atStart => exact ⟨0, by omega, rfl, rfl⟩
  case round =>
    obtain ⟨pos, hp, rfl, rfl⟩ := hrel
    by_cases hps : pos < s.size
    · have hd := hgood pos hps
      have hnx := dig_next w s pos hps hd
      have h1 := hd.1
      have h2 := hd.2
      have hm : Hid (s.size - (pos + 1) < s.size - pos) := by show _ < _; omega
      have htk : s.data.toList.take (pos + 1) = s.data.toList.take pos ++ [s[pos]'hps] := by
        rw [List.take_succ_eq_append_getElem (by omega)]
        rfl
      have hdv := dval_snoc (s.data.toList.take pos) (s[pos]'hps)
      rw [← htk] at hdv
      have hlt : dval (s.data.toList.take pos) < 10 ^ 18 := by
        have h3 := dval_lt (s.data.toList.take pos) (fun c hc => by
          obtain ⟨i, hi, rfl⟩ := List.getElem_of_mem (List.mem_of_mem_take hc)
          exact hgood i (by omega))
        have h4 : (s.data.toList.take pos).length ≤ 18 := by rw [List.length_take]; omega
        exact Nat.lt_of_lt_of_le h3 (Nat.pow_le_pow_right (by omega) h4)
      have hp18 : (10 : Nat) ^ 18 = 1000000000000000000 := by decide
      rw [hp18] at hlt
      obtain ⟨ci, hci⟩ : ∃ ci : Int, ci = (((s[pos]'hps).toNat : Nat) : Int) := ⟨_, rfl⟩
      obtain ⟨vi, hvi⟩ : ∃ vi : Int, vi = ((dval (s.data.toList.take pos) : Nat) : Int) := ⟨_, rfl⟩
      obtain ⟨xi, hxi⟩ : ∃ xi : Int, xi = ((dval (s.data.toList.take (pos + 1)) : Nat) : Int) := ⟨_, rfl⟩
      have hfin : Hid (Value.int .u64 xi = Value.int .u64 ((dval (s.data.toList.take (pos + 1)) : Nat) : Int)) := by show _ = _; rw [hxi]
      rw [← hci] at hnx
      rw [← hvi]
      have f1 : IntKind.u64.wrap (vi * 10) = vi * 10 := by rw [IntKind.wrap_u64]; omega
      have f2 : IntKind.u64.wrap (ci - 48) = ci - 48 := by rw [IntKind.wrap_u64]; omega
      have f3 : IntKind.u64.wrap (vi * 10 + (ci - 48)) = xi := by rw [IntKind.wrap_u64]; omega
      have f4 : IntKind.i32.wrap (ci - 48) = ci - 48 := by rw [IntKind.wrap_i32]; omega
      clear h1 h2 hd hgood hci hvi hxi hlt hdv htk
      go_wp2_with fail
      exact ⟨⟨pos + 1, by omega, hfin.out, rfl⟩, by simpa using hm.out⟩
    · obtain rfl : pos = s.size := by omega
      have hnx : ∀ ty, (Instr.next (.pointer (some ⟨w.heap.size, 0, none⟩)) true ty).run Tryd.prog (w.iter s s.size) = _ := fun ty => run_next_end w s s.size ty hps
      have hI := Lib.hid (iter_below w s s.size)
      have hall : Hid (s.data.toList.take s.size = s.data.toList) := List.take_of_length_le (by omega)
      rw [hall.out] at *
      clear hgood
      go_wp2_with fail
      go_ret
      exact ⟨rfl, hI.out⟩
end Go.Proofs.YthcglobehoaocaaDoor
