/- The contracts of deci's Whole and ParseWhole, over the library's. The contracts of deci's areDigits and rowValue. Plain facts for deci's Parse; the caps' sums and products, both answers at once. A number's digits, and the texts that are such. The contract of deci's Parse. The contract of deci's Parse, whole; the chapter's examples (works). Digits read back, whole numbers read back, texts of numbers compared. -/
import Derived.Test.YtijliimiojjjdaaDoorGDivA
import Derived.Test.YtijliimiojjjdaaDoorShelf
import Derived.Lib.LaidTab
import Derived.WalkSmall
import Derived.Lib.ParseIntB
import Derived.Test.YtijliimiojjjdaaDoorGNatD
import Derived.Lib.ItoaMem
import Derived.Lib.ParseIntBCases
namespace Go.Proofs.YtijliimiojjjdaaDoor
section
open Go.RowKit

/-- What the library's variables hold, as the program's text lays them. -/
structure Laid (w : World) : Prop where
  big : 1 < w.heap.size ∧ 2 < w.heap.size ∧ 3 < w.heap.size
  tab : Lib.TabIs Tryd.prog w "internal/strconv.uint64pow10" .u64 Lib.pow10Tab
  syn : ∃ tp p, w.var? Tryd.prog "strconv.ErrSyntax" = some #[.iface tp p]
  rng : ∃ tp p, w.var? Tryd.prog "strconv.ErrRange" = some #[.iface tp p]
theorem gTab : Tryd.prog.globalNamed "internal/strconv.uint64pow10" = some 1 := by kernel_rfl
theorem gSyn : Tryd.prog.globalNamed "strconv.ErrSyntax" = some 2 := by kernel_rfl
theorem gRng : Tryd.prog.globalNamed "strconv.ErrRange" = some 3 := by kernel_rfl
theorem Laid.below {w w' : World} (h : Laid w) (hb : Below w.heap.size w w') : Laid w' := by
  obtain ⟨k1, k2, k3⟩ := h.big
  have hs := hb.size
  obtain ⟨tp, p, h1⟩ := h.syn
  obtain ⟨tq, q, h2⟩ := h.rng
  exact ⟨⟨by omega, by omega, by omega⟩, var?_below hb gTab (by omega) h.tab, ⟨tp, p, var?_below hb gSyn (by omega) h1⟩, ⟨tq, q, var?_below hb gRng (by omega) h2⟩⟩

theorem below_grow (w : World) (k : Nat) (os : Array Obj) : Below w.heap.size w (Go.Sort.grow (w.drewN k) os) :=
  ⟨rfl, rfl, rfl, by simp [Go.Sort.grow], fun i hi => by
    show (w.heap ++ os)[i]? = w.heap[i]?
    rw [Array.getElem?_append_left hi]⟩

/-- Of these, what the digits of a whole number ask: the powers of ten. -/
structure LaidT (w : World) : Prop where
  big : 1 < w.heap.size
  tab : Lib.TabIs Tryd.prog w "internal/strconv.uint64pow10" .u64 Lib.pow10Tab
theorem Laid.t {w : World} (h : Laid w) : LaidT w := ⟨h.big.1, h.tab⟩
theorem LaidT.below {w w' : World} (h : LaidT w) (hb : Below w.heap.size w w') : LaidT w' :=
  ⟨Nat.lt_of_lt_of_le h.big hb.size, var?_below hb gTab h.big h.tab⟩

set_option maxHeartbeats 400000 in
theorem deciWholeT (n : Int) (h0 : -9223372036854775808 ≤ n) (h1 : n ≤ 9223372036854775807) (w : World) (hL : LaidT w) :
    Calls Tryd.prog 45 #[.int .i64 n] w fun e w' => e = .returned (.string ⟨(Lib.itoa n).toArray⟩) ∧ Below w.heap.size w w' := by
  have hq := Tryd.strconv_FormatInt_10 n h0 h1 w hL.tab
  generalize (⟨(Lib.itoa n).toArray⟩ : ByteArray) = S at *
  clear h0 h1
  go_enter Tryd.func45, Tryd.ntmps45
  go_wp2_with fail
  refine hq.mono ?_
  rintro e w1 ⟨rfl, k, os, rfl⟩
  go_wp2_with fail
  go_ret
  exact ⟨rfl, below_grow w k os⟩
theorem deciWhole (n : Int) (h0 : -9223372036854775808 ≤ n) (h1 : n ≤ 9223372036854775807) (w : World) (hL : Laid w) :
    Calls Tryd.prog 45 #[.int .i64 n] w fun e w' => e = .returned (.string ⟨(Lib.itoa n).toArray⟩) ∧ Below w.heap.size w w' := deciWholeT n h0 h1 w hL.t

/-- The whole number that a text spells. -/
def spells (l : List UInt8) (v : Int) : Prop := Lib.parseIntB 64 l = .ok v ∧ Lib.itoa v = l

theorem bytesOf (s : ByteArray) : (⟨s.data.toList.toArray⟩ : ByteArray) = s := by simp
theorem below_bytes (w : World) (t : ByteArray) : Below w.heap.size w (Lib.bytesWorld w 5 t) := Lib.bytesWorld_below _ _ _

set_option maxHeartbeats 1000000 in
theorem parseWhole_yes (s : ByteArray) (v : Int) (w : World) (hL : Laid w) (hs : s.size ≤ 100000000000) (h : spells s.data.toList v) (h0 : -9223372036854775808 ≤ v) (h1 : v ≤ 9223372036854775807) :
    Calls Tryd.prog 48 #[.string s] w fun e w' => e = .returned (.tuple #[.int .i64 v, .int .i64 0]) ∧ Below w.heap.size w w' := by
  have hp := Tryd.strconv_ParseInt_10_at64_ok s (by omega) v h.1 w
  have hw := fun w hL => deciWhole v h0 h1 w hL
  rw [h.2, bytesOf] at hw
  clear h h0 h1
  go_enter Tryd.func48, Tryd.ntmps48
  go_wp2_with fail
  refine hp.mono ?_
  rintro e w1 ⟨rfl, hw1⟩
  have hb1 : Below w.heap.size w w1 := by
    rcases hw1 with rfl | ⟨t, rfl⟩
    · exact Below.refl _ _
    · exact below_bytes w t
  clear hw1
  go_wp2_with fail
  refine (hw _ (hL.below hb1)).mono ?_
  rintro e w2 ⟨rfl, hb2⟩
  go_wp2_with fail
  go_ret2
  exact ⟨rfl, hb1.trans (hb2.mono hb1.size)⟩

theorem str_ne {a b : ByteArray} (h : a ≠ b) : (a.toList == b.toList) = false := by
  simp only [beq_eq_false_iff_ne, ne_eq, ByteArray.toList_eq]
  intro e
  apply h
  cases a
  cases b
  simpa using e
theorem str_eq (a : ByteArray) : (a.toList == a.toList) = true := by simp

set_option maxHeartbeats 1000000 in
theorem parseWhole_other (s : ByteArray) (v : Int) (w : World) (hL : Laid w) (hs : s.size ≤ 100000000000) (h : Lib.parseIntB 64 s.data.toList = .ok v) (hne : (⟨(Lib.itoa v).toArray⟩ : ByteArray) ≠ s) (h0 : -9223372036854775808 ≤ v) (h1 : v ≤ 9223372036854775807) :
    Calls Tryd.prog 48 #[.string s] w fun e w' => e = .returned (.tuple #[.int .i64 0, .int .i64 20]) ∧ Below w.heap.size w w' := by
  have hp := Tryd.strconv_ParseInt_10_at64_ok s (by omega) v h w
  have hw := fun w hL => deciWhole v h0 h1 w hL
  generalize (⟨(Lib.itoa v).toArray⟩ : ByteArray) = S at *
  have hbe := str_ne hne
  clear h h0 h1
  go_enter Tryd.func48, Tryd.ntmps48
  go_wp2_with fail
  refine hp.mono ?_
  rintro e w1 ⟨rfl, hw1⟩
  have hb1 : Below w.heap.size w w1 := by
    rcases hw1 with rfl | ⟨t, rfl⟩
    · exact Below.refl _ _
    · exact below_bytes w t
  clear hw1
  go_wp2_with fail
  refine (hw _ (hL.below hb1)).mono ?_
  rintro e w2 ⟨rfl, hb2⟩
  go_wp2_with fail
  go_ret2
  exact ⟨rfl, hb1.trans (hb2.mono hb1.size)⟩

set_option maxHeartbeats 1000000 in
theorem parseWhole_err (s : ByteArray) (n : Int) (w : World)
    (hp : Calls Tryd.prog 57 #[.string s, .int .i64 10, .int .i64 64] w fun e w' => ∃ N tp p, e = .returned (.tuple #[.int .i64 n, .iface 108 (.pointer (some ⟨N, 0, none⟩))]) ∧ w.heap.size ≤ N ∧ w'.heap[N]? = some (.cells #[.string ⟨#[80, 97, 114, 115, 101, 73, 110, 116]⟩, .string s, .iface tp p] 119 (0, 0)) ∧ Below w.heap.size w w') :
    Calls Tryd.prog 48 #[.string s] w fun e w' => e = .returned (.tuple #[.int .i64 0, .int .i64 20]) ∧ Below w.heap.size w w' := by
  go_enter Tryd.func48, Tryd.ntmps48
  go_wp2_with fail
  refine hp.mono ?_
  rintro e w1 ⟨N, tp, p, rfl, hN, hc, hb1⟩
  clear hc hN
  go_wp2_with fail
  go_ret2
  exact ⟨rfl, hb1⟩

theorem parseWhole_no (s : ByteArray) (w : World) (hL : Laid w) (hs : s.size ≤ 100000000000) (h : ¬ ∃ v, spells s.data.toList v) :
    Calls Tryd.prog 48 #[.string s] w fun e w' => e = .returned (.tuple #[.int .i64 0, .int .i64 20]) ∧ Below w.heap.size w w' := by
  by_cases hok : ∃ v, Lib.parseIntB 64 s.data.toList = .ok v
  · obtain ⟨v, hp⟩ := hok
    have hb := Lib.parseIntB_bounds hp
    refine parseWhole_other s v w hL hs hp (fun e => h ⟨v, hp, ?_⟩) (by omega) (by omega)
    have := congrArg (fun b : ByteArray => b.data.toList) e
    simpa using this
  · by_cases hp : Lib.parseIntB 64 s.data.toList = .range
    · obtain ⟨tp, p, hv⟩ := hL.rng
      refine parseWhole_err s (Lib.intSat 64 s.data.toList) w ((Tryd.strconv_ParseInt_10_at64_range_var s (by omega) hp tp p w hv).mono ?_)
      rintro e w' ⟨N, h1, h2, h3, h4⟩
      exact ⟨N, tp, p, h1, h2, h3, h4⟩
    · obtain ⟨tp, p, hv⟩ := hL.syn
      refine parseWhole_err s 0 w ((Tryd.strconv_ParseInt_10_at64_bad_var s (by omega) (fun v e => hok ⟨v, e⟩) hp tp p w hv).mono ?_)
      rintro e w' ⟨N, h1, h2, h3, h4⟩
      exact ⟨N, tp, p, h1, h2, h3, h4⟩
end

section
open Go.RowKit

/-- A byte that is a decimal digit. -/
def isDig (c : UInt8) : Prop := 48 ≤ c.toNat ∧ c.toNat ≤ 57
instance (c : UInt8) : Decidable (isDig c) := inferInstanceAs (Decidable (_ ∧ _))

theorem dig_next (w : World) (s : ByteArray) (pos : Nat) (h : pos < s.size) (hd : isDig (s[pos]'h)) : ∀ ty, (Instr.next (.pointer (some ⟨w.heap.size, 0, none⟩)) true ty).run Tryd.prog (w.iter s pos) = .ok (.tuple #[.bool true, .int .i64 pos, .int .i32 (s[pos]'h).toNat]) (w.iter s (pos + 1)) :=
  fun ty => run_next_ascii w s pos ty h (by have := hd.2; omega)
theorem nodig_next (w : World) (s : ByteArray) (pos : Nat) (h : pos < s.size) (hd : ¬ isDig (s[pos]'h)) : ∃ r n : Nat, (r < 48 ∨ 57 < r) ∧ r ≤ 2147483647 ∧ ∀ ty, (Instr.next (.pointer (some ⟨w.heap.size, 0, none⟩)) true ty).run Tryd.prog (w.iter s pos) = .ok (.tuple #[.bool true, .int .i64 pos, .int .i32 (r : Int)]) (w.iter s n) := by
  refine ⟨(Utf8.decode s pos).1, pos + (Utf8.decode s pos).2, ?_, decode_le s pos, fun ty => run_next_any w s pos ty h⟩
  by_cases ha : (s[pos]'h).toNat < 128
  · rw [decode_ascii s pos h ha]
    unfold isDig at hd
    simp only
    omega
  · have := (decode_high s pos h (by omega)).1
    omega

theorem iter_below (w : World) (s : ByteArray) (pos : Nat) : Below w.heap.size w (w.iter s pos) := (Below.refl _ _).alloc (Nat.le_refl _) _

/-- What is told of a row of digits. -/
def lead (s : ByteArray) (b : Bool) : Prop :=
  ((s.toList == [48]) = true ∧ b = true) ∨ ((s.toList == [48]) = false ∧ s.toList.isEmpty = true ∧ b = false) ∨
    ((s.toList == [48]) = false ∧ s.toList.isEmpty = false ∧ ∃ h : 0 < s.size, ((((s[0]'h).toNat : Nat) : Int) != 48) = b)

/-- What a row of digits counts. -/
def dval (l : List UInt8) : Nat := l.foldl (fun a c => a * 10 + (c.toNat - 48)) 0
theorem dval_snoc (l : List UInt8) (c : UInt8) : dval (l ++ [c]) = dval l * 10 + (c.toNat - 48) := by simp [dval]
theorem dvalA_lt : ∀ (l : List UInt8) (a : Nat), (∀ c ∈ l, isDig c) → l.foldl (fun a c => a * 10 + (c.toNat - 48)) a < (a + 1) * 10 ^ l.length
  | [], a, _ => by simp
  | c :: l, a, h => by
    have h1 := dvalA_lt l (a * 10 + (c.toNat - 48)) fun x hx => h x (List.mem_cons_of_mem _ hx)
    have h2 := (h c List.mem_cons_self).2
    rw [List.foldl_cons, List.length_cons, Nat.pow_succ]
    refine Nat.lt_of_lt_of_le h1 ?_
    rw [Nat.mul_comm (10 ^ l.length), ← Nat.mul_assoc]
    exact Nat.mul_le_mul_right _ (by omega)
theorem dval_lt (l : List UInt8) (h : ∀ c ∈ l, isDig c) : dval l < 10 ^ l.length := by
  have := dvalA_lt l 0 h
  simpa [dval] using this
end

section
open Go.RowKit

theorem dvalA_eq (l : List UInt8) : ∀ a : Nat, l.foldl (fun a c => a * 10 + (c.toNat - 48)) a = a * 10 ^ l.length + dval l := by
  induction l with
  | nil => intro a; simp [dval]
  | cons c l ih =>
    intro a
    unfold dval
    rw [List.foldl_cons, List.foldl_cons, ih, ih (0 * 10 + (c.toNat - 48)), List.length_cons, Nat.pow_succ, Nat.add_mul, Nat.zero_mul, Nat.zero_add, Nat.mul_assoc, Nat.mul_comm 10]
    omega
theorem dval_append (l m : List UInt8) : dval (l ++ m) = dval l * 10 ^ m.length + dval m := by
  unfold dval
  rw [List.foldl_append, dvalA_eq]
  rfl

/-- A text of digits. -/
def allDig (s : ByteArray) : Prop := ∀ i (hi : i < s.size), isDig (s[i]'hi)

/-- Where Parse's loop stands: the number so far, and what is left of the text. -/
structure ParseAt (w : World) (g4 g6 : Nat) (c0 : Int) (V L N : Nat) (A : Option Addr) (n c : Nat) (rem : ByteArray) (wr : World) : Prop where
  res : wr.cell? ⟨g4, 0, none⟩ = some (.slice none 0 0) ∧ wr.frozen? ⟨g4, 0, none⟩ = false
  var : wr.cell? ⟨g6, 0, none⟩ = some (.slice A n c) ∧ wr.frozen? ⟨g6, 0, none⟩ = false
  num : Num wr (g6 + 1) A n c N
  fit : Fit c0 N
  dig : allDig rem
  val : V = N * 10 ^ rem.size + dval rem.data.toList
  rows : N = 0 ∨ 19 ∣ rem.size
  len : rem.size ≤ L
  below : Below w.heap.size w wr

theorem num_len {w : World} {b n c N L : Nat} {A : Option Addr} (h : Num w b A n c N) (hN : N < 10 ^ L) : n ≤ L := by
  have h1 := (h.fit (L : Int)).2 (by
    unfold Fit capN
    rw [show (max (L : Int) 0).toNat = L by omega]
    exact Nat.lt_of_lt_of_le hN (Nat.pow_le_pow_left (by unfold LB; omega) L))
  unfold capN at h1
  omega

/-- Where a round of Parse stands, a limited sum or product made: T is what it should be. -/
structure Mid (w : World) (g4 g6 : Nat) (c0 : Int) (T N3 : Nat) (ok : Bool) (A : Option Addr) (n c g8 : Nat) (A3 : Option Addr) (n3 c3 : Nat) (W : World) : Prop where
  res : W.cell? ⟨g4, 0, none⟩ = some (.slice none 0 0) ∧ W.frozen? ⟨g4, 0, none⟩ = false
  var : W.cell? ⟨g6, 0, none⟩ = some (.slice A n c) ∧ W.frozen? ⟨g6, 0, none⟩ = false
  box : W.cell? ⟨g8, 0, none⟩ = some (.slice A3 n3 c3)
  num : Num W (g6 + 1) A3 n3 c3 N3
  yes : ok = true → Fit c0 T ∧ N3 = T
  no : ok = false → ¬ Fit c0 T ∧ N3 = 0
  len : n3 ≤ 1000010
  below : Below w.heap.size w W

/-- The same, ahead of the box: the call has answered in the world W; the boxes stand. -/
structure Pre (w : World) (g4 g6 : Nat) (A : Option Addr) (n c : Nat) (W : World) : Prop where
  res : W.cell? ⟨g4, 0, none⟩ = some (.slice none 0 0) ∧ W.frozen? ⟨g4, 0, none⟩ = false
  var : W.cell? ⟨g6, 0, none⟩ = some (.slice A n c) ∧ W.frozen? ⟨g6, 0, none⟩ = false
  below : Below w.heap.size w W
  le4 : w.heap.size ≤ g4
  lt4 : g4 < g6
  lt6 : g6 < W.heap.size
theorem Pre.step {w W W' : World} {g4 g6 n c : Nat} {A : Option Addr} (h : Pre w g4 g6 A n c W) (hb : Below W.heap.size W W') : Pre w g4 g6 A n c W' := by
  have h1 := bcell1 hb h.res.1 h.res.2
  have h2 := bcell1 hb h.var.1 h.var.2
  exact ⟨h1, h2, h.below.trans (hb.mono h.below.size), h.le4, h.lt4, Nat.lt_of_lt_of_le h.lt6 hb.size⟩
theorem Pre.alloc {w W : World} {g4 g6 n c : Nat} {A : Option Addr} (h : Pre w g4 g6 A n c W) (o : Obj) : Pre w g4 g6 A n c (W.alloc o) := h.step ((Below.refl _ _).alloc (Nat.le_refl _) o)
theorem Pre.drew {w W : World} {g4 g6 n c : Nat} {A : Option Addr} (h : Pre w g4 g6 A n c W) : Pre w g4 g6 A n c W.drew := ⟨h.res, h.var, h.below.drew, h.le4, h.lt4, h.lt6⟩

/-- The box was made ahead of it. -/
theorem Mid.ahead {w W : World} {g4 g6 n c n3 c3 T N3 b gX : Nat} {A A3 : Option Addr} {v : Value} {c0 : Int} {ok : Bool} (h : Pre w g4 g6 A n c W) (hnum : Num W b A3 n3 c3 N3) (hb : g6 + 1 ≤ b) (hX : W.cell? ⟨gX, 0, none⟩ = some v) (hXb : gX < b) (hX6 : g6 < gX) (yes : ok = true → Fit c0 T ∧ N3 = T) (no : ok = false → ¬ Fit c0 T ∧ N3 = 0) (hl : n3 ≤ 1000010) :
    Mid w g4 g6 c0 T N3 ok A n c gX A3 n3 c3 (W.setCell ⟨gX, 0, none⟩ (.slice A3 n3 c3)) := by
  have h4 := h.lt4
  have h0 := h.le4
  refine ⟨⟨?_, ?_⟩, ⟨?_, ?_⟩, ?_, (hnum.setCell (by simpa using hXb) _).mono hb, yes, no, hl, ?_⟩
  · rw [World.cell?_setCell_other _ _ _ _ (by intro e; injection e; omega)]; exact h.res.1
  · rw [World.frozen?_setCell]; exact h.res.2
  · rw [World.cell?_setCell_other _ _ _ _ (by intro e; injection e; omega)]; exact h.var.1
  · rw [World.frozen?_setCell]; exact h.var.2
  · exact World.cell?_setCell_same _ _ _ hX
  · exact h.below.setCell (p := ⟨gX, 0, none⟩) (by show _ ≤ gX; omega) _

theorem extract_list (b : ByteArray) (i j : Nat) : (b.extract i j).data.toList = (b.data.toList.drop i).take (j - i) := by
  rw [ByteArray.data_extract, Array.toList_extract]
theorem size_len (b : ByteArray) : b.data.toList.length = b.size := Array.length_toList
theorem allDig_iff (b : ByteArray) : allDig b ↔ ∀ c ∈ b.data.toList, isDig c := by
  constructor
  · intro h c hc
    obtain ⟨i, hi, rfl⟩ := List.getElem_of_mem hc
    exact h i (by rw [size_len] at hi; exact hi)
  · intro h i hi
    exact h _ (List.getElem_mem (by rw [size_len]; exact hi))

/-- The first row of a text, and what is left behind it. -/
structure Cut (rem row rest : ByteArray) : Prop where
  rowDig : allDig row
  rowLen : row.size ≤ 19
  restDig : allDig rest
  restLen : rest.size < rem.size
  restRow : 19 ∣ rest.size
  whole : 19 ∣ rem.size → row.size = 19
  val : dval rem.data.toList = dval row.data.toList * 10 ^ rest.size + dval rest.data.toList
  len : rem.size = row.size + rest.size
theorem cut_of (rem : ByteArray) (wd : Nat) (h0 : 0 < rem.size) (hd : allDig rem) (hw : wd = (rem.size - 1) % 19 + 1) : Cut rem (rem.extract 0 wd) (rem.extract wd rem.size) := by
  have hm := Nat.div_add_mod (rem.size - 1) 19
  have hl := Nat.mod_lt (rem.size - 1) (show 0 < 19 by omega)
  have e1 := extract_list rem 0 wd
  have e2 := extract_list rem wd rem.size
  rw [List.drop_zero, Nat.sub_zero] at e1
  rw [List.take_of_length_le (by rw [List.length_drop, size_len]; exact Nat.le_refl _)] at e2
  have l1 : (rem.extract 0 wd).size = wd := by rw [← size_len, e1, List.length_take, size_len]; omega
  have l2 : (rem.extract wd rem.size).size = rem.size - wd := by rw [← size_len, e2, List.length_drop, size_len]
  rw [allDig_iff] at hd
  refine ⟨?_, by omega, ?_, by omega, ?_, ?_, ?_, by omega⟩
  · rw [allDig_iff, e1]; exact fun c hc => hd c (List.mem_of_mem_take hc)
  · rw [allDig_iff, e2]; exact fun c hc => hd c (List.mem_of_mem_drop hc)
  · rw [l2]; exact ⟨(rem.size - 1) / 19, by omega⟩
  · rintro ⟨k, hk⟩; rw [l1]; omega
  · rw [e1, e2, ← size_len (rem.extract wd rem.size), e2, ← dval_append, List.take_append_drop]
theorem cut_val {V N : Nat} {rem row rest : ByteArray} (h : Cut rem row rest) (hv : V = N * 10 ^ rem.size + dval rem.data.toList) (hr : N = 0 ∨ 19 ∣ rem.size) : V = (N * TT + dval row.data.toList) * 10 ^ rest.size + dval rest.data.toList := by
  rw [hv, h.val, Nat.add_mul]
  rcases hr with rfl | hr
  · simp
  · rw [h.len, h.whole hr, Nat.pow_add, TT_eq, Nat.mul_assoc]
    omega
theorem parse_next {w wr W8 : World} {g4 g6 g10 V L N N4 n c n4 c4 : Nat} {c0 : Int} {A A4 : Option Addr} {rem row rest : ByteArray} (hst : ParseAt w g4 g6 c0 V L N A n c rem wr) (hcut : Cut rem row rest)
    (h : Mid w g4 g6 c0 (N * TT + dval row.data.toList) N4 true A n c g10 A4 n4 c4 W8) (hg : g4 < g6) (hw : w.heap.size ≤ g4) : ParseAt w g4 g6 c0 V L (N * TT + dval row.data.toList) A4 n4 c4 rest (W8.setCell ⟨g6, 0, none⟩ (.slice A4 n4 c4)) := by
  obtain ⟨y1, y2⟩ := h.yes rfl
  refine ⟨⟨?_, ?_⟩, ⟨?_, ?_⟩, ?_, y1, hcut.restDig, cut_val hcut hst.val hst.rows, .inr hcut.restRow, Nat.le_trans (Nat.le_of_lt hcut.restLen) hst.len, h.below.setCell (p := ⟨g6, 0, none⟩) (by show _ ≤ g6; omega) _⟩
  · rw [World.cell?_setCell_other _ _ _ _ (by intro e; injection e; omega)]; exact h.res.1
  · rw [World.frozen?_setCell]; exact h.res.2
  · exact World.cell?_setCell_same _ _ _ h.var.1
  · rw [World.frozen?_setCell]; exact h.var.2
  · rw [← y2]
    exact h.num.setCell (Nat.lt_succ_self _) _
theorem ParseAt.drew {w wr : World} {g4 g6 V L N n c : Nat} {c0 : Int} {A : Option Addr} {rem : ByteArray} (h : ParseAt w g4 g6 c0 V L N A n c rem wr) : ParseAt w g4 g6 c0 V L N A n c rem wr.drew :=
  ⟨h.res, h.var, h.num, h.fit, h.dig, h.val, h.rows, h.len, h.below.drew⟩
theorem fit_fail {c0 : Int} {V N : Nat} {rem row rest : ByteArray} (h : Cut rem row rest) (hv : V = N * 10 ^ rem.size + dval rem.data.toList) (hr : N = 0 ∨ 19 ∣ rem.size) (hn : ¬ Fit c0 (N * TT + dval row.data.toList)) : ¬ Fit c0 V := by
  intro hf
  apply hn
  refine hf.mono ?_
  rw [cut_val h hv hr]
  exact Nat.le_trans (Nat.le_mul_of_pos_right _ (Nat.pow_pos (by omega))) (Nat.le_add_right _ _)
theorem cut_row_lt {rem row rest : ByteArray} (h : Cut rem row rest) : dval row.data.toList < TT := by
  have h1 := dval_lt row.data.toList ((allDig_iff row).1 h.rowDig)
  rw [size_len] at h1
  rw [TT_eq]
  exact Nat.lt_of_lt_of_le h1 (Nat.pow_le_pow_right (by omega) h.rowLen)
end

section
/-- A row of digits without noughts ahead. -/
def Canon (l : List UInt8) : Prop := (∀ c ∈ l, isDig c) ∧ (l = [48] ∨ ∃ c r, l = c :: r ∧ c ≠ 48)

theorem ofNat_dig (d : Nat) (h : d < 10) : isDig (UInt8.ofNat (48 + d)) ∧ (UInt8.ofNat (48 + d)).toNat = 48 + d := by
  have e : (UInt8.ofNat (48 + d)).toNat = 48 + d := by
    simp only [UInt8.toNat_ofNat']
    omega
  exact ⟨by unfold isDig; rw [e]; omega, e⟩
theorem dec_big {N : Nat} (h : ¬ N < 10) : Lib.decDigits N = Lib.decDigits (N / 10) ++ [UInt8.ofNat (48 + N % 10)] := by rw [Lib.decDigits, dif_neg h]
theorem dval_dec (N : Nat) : dval (Lib.decDigits N) = N := by
  induction N using Nat.strongRecOn with
  | _ N ih =>
    by_cases h : N < 10
    · rw [Lib.decDigits_one h]
      have := (ofNat_dig N h).2
      simp only [dval, List.foldl_cons, List.foldl_nil, this]
      omega
    · rw [dec_big h, dval_snoc, ih (N / 10) (by omega), (ofNat_dig (N % 10) (by omega)).2]
      omega
theorem dec_ne (N : Nat) : Lib.decDigits N ≠ [] := by
  intro h
  have := Lib.decDigits_length N
  have h2 := Lib.nDigits_pos N
  rw [h] at this
  simp at this
  omega
theorem dec_canon (N : Nat) : Canon (Lib.decDigits N) := by
  induction N using Nat.strongRecOn with
  | _ N ih =>
    by_cases h : N < 10
    · rw [Lib.decDigits_one h]
      have hd := ofNat_dig N h
      refine ⟨fun c hc => by rw [List.mem_singleton.1 hc]; exact hd.1, ?_⟩
      rcases Nat.eq_zero_or_pos N with h0 | h0
      · subst h0; exact .inl rfl
      · refine .inr ⟨_, _, rfl, fun e => ?_⟩
        have := hd.2
        rw [e] at this
        have h48 : (48 : UInt8).toNat = 48 := rfl
        omega
    · have hi := ih (N / 10) (by omega)
      rw [dec_big h]
      refine ⟨fun c hc => ?_, .inr ?_⟩
      · rcases List.mem_append.1 hc with hc | hc
        · exact hi.1 c hc
        · rw [List.mem_singleton.1 hc]; exact (ofNat_dig (N % 10) (by omega)).1
      · rcases hi.2 with h1 | ⟨c, r, h1, h2⟩
        · have := dval_dec (N / 10)
          rw [h1] at this
          have h48 : dval [48] = 0 := rfl
          omega
        · exact ⟨c, r ++ [UInt8.ofNat (48 + N % 10)], by rw [h1]; rfl, h2⟩
theorem canon_dec : ∀ (n : Nat) (l : List UInt8), l.length = n → Canon l → Lib.decDigits (dval l) = l := by
  intro n
  induction n with
  | zero =>
    intro l hl h
    have : l = [] := List.eq_nil_of_length_eq_zero hl
    subst this
    rcases h.2 with h | ⟨c, r, h, _⟩ <;> cases h
  | succ n ih =>
    intro l hl h
    have hne : l ≠ [] := by intro e; rw [e] at hl; cases hl
    obtain ⟨m, c, rfl⟩ : ∃ m c, l = m ++ [c] := ⟨l.dropLast, l.getLast hne, (List.dropLast_concat_getLast hne).symm⟩
    have hc := h.1 c (by simp)
    have hco : UInt8.ofNat (48 + (c.toNat - 48)) = c := by
      rw [show 48 + (c.toNat - 48) = c.toNat by have := hc.1; omega]
      simp
    have hc9 : c.toNat - 48 < 10 := by have := hc.2; omega
    rw [dval_snoc]
    cases m with
    | nil =>
      have : dval ([] : List UInt8) = 0 := rfl
      rw [this, Nat.zero_mul, Nat.zero_add, Lib.decDigits_one hc9, hco]
      rfl
    | cons x m =>
      have hx : x ≠ 48 := by
        rcases h.2 with h | ⟨y, r, h, h2⟩
        · simp at h
        · injection h with h3 _
          rw [h3]; exact h2
      have hm : Canon (x :: m) := ⟨fun d hd => h.1 d (List.mem_append_left _ hd), .inr ⟨x, m, rfl, hx⟩⟩
      have hi := ih (x :: m) (by simpa using hl) hm
      have hpos : 0 < dval (x :: m) := by
        rcases Nat.eq_zero_or_pos (dval (x :: m)) with h0 | h0
        · rw [h0, Lib.decDigits_one (by omega)] at hi
          injection hi with h3 _
          exact absurd h3.symm hx
        · exact h0
      generalize dval (x :: m) = d at *
      rw [dec_big (by omega), show (d * 10 + (c.toNat - 48)) / 10 = d by omega, show (d * 10 + (c.toNat - 48)) % 10 = c.toNat - 48 by omega, hi, hco]
theorem canon_iff (l : List UInt8) : Canon l ↔ Lib.decDigits (dval l) = l :=
  ⟨canon_dec l.length l rfl, fun h => h ▸ dec_canon (dval l)⟩
theorem canon_spells (l : List UInt8) : Canon l ↔ ∃ N, l = Lib.decDigits N := ⟨fun h => ⟨dval l, ((canon_iff l).1 h).symm⟩, fun ⟨N, h⟩ => h ▸ dec_canon N⟩
end

section
open Go.RowKit

/-- What Parse answers of a text of digits that counts V. -/
def ParseEnd (c0 : Int) (V L : Nat) (w : World) (e : Ending) (w' : World) : Prop :=
  ((Fit c0 V ∧ ∃ A1 n1 c1, e = .returned (.tuple #[.agg #[.slice A1 n1 c1], .int .i64 0]) ∧ Num w' w.heap.size A1 n1 c1 V ∧ n1 ≤ L) ∨ (¬ Fit c0 V ∧ e = .returned (.tuple #[.agg #[.slice none 0 0], .int .i64 10]))) ∧ Below w.heap.size w w'
end

section
open Go.RowKit

theorem toList_data (s : ByteArray) : s.toList = s.data.toList := ByteArray.toList_eq s
theorem lead_yes (s : ByteArray) (h : Canon s.data.toList) : lead s true := by
  unfold lead
  rw [toList_data]
  rcases h.2 with h1 | ⟨c, r, h1, h2⟩
  · left; rw [h1]; exact ⟨rfl, rfl⟩
  · right; right
    have hsz : 0 < s.size := by rw [← size_len, h1]; simp
    have h0 : s[0]'hsz = c := by
      have : s.data.toList[0]'(by rw [h1]; simp) = c := by simp [h1]
      exact this
    refine ⟨?_, by rw [h1]; rfl, hsz, ?_⟩
    · rw [h1]
      simp only [beq_eq_false_iff_ne, ne_eq]
      intro e
      injection e with e _
      exact h2 e
    · rw [h0]
      simp only [bne_iff_ne, ne_eq]
      intro e
      apply h2
      have : c.toNat = (48 : UInt8).toNat := by
        have h48 : (48 : UInt8).toNat = 48 := rfl
        omega
      exact UInt8.toNat_inj.1 this
theorem lead_no (s : ByteArray) (hd : allDig s) (h : ¬ Canon s.data.toList) : lead s false := by
  unfold lead
  rw [toList_data]
  right
  rw [allDig_iff] at hd
  cases hl : s.data.toList with
  | nil => left; exact ⟨rfl, rfl, rfl⟩
  | cons c r =>
    right
    have hsz : 0 < s.size := by rw [← size_len, hl]; simp
    have h0 : s[0]'hsz = c := by
      have : s.data.toList[0]'(by rw [hl]; simp) = c := by simp [hl]
      exact this
    have hc : c = 48 := by
      by_cases e : c = 48
      · exact e
      · exact absurd ⟨hd, .inr ⟨c, r, hl, e⟩⟩ h
    have hr : r ≠ [] := by
      intro e
      rw [hc, e] at hl
      exact h ⟨hd, .inl hl⟩
    refine ⟨?_, rfl, hsz, ?_⟩
    · simp only [beq_eq_false_iff_ne, ne_eq]
      intro e
      injection e with _ e
      exact hr e
    · rw [h0, hc]; rfl

/-! The chapter's examples. -/
def bigText : List UInt8 := [49, 56, 52, 52, 54, 55, 52, 52, 48, 55, 51, 55, 48, 57, 53, 53, 49, 54, 49, 54]
def lowText : List UInt8 := [57, 50, 50, 51, 51, 55, 50, 48, 51, 54, 56, 53, 52, 55, 55, 53, 56, 48, 56]
theorem bigVal : dval bigText = LB := by unfold LB; rfl
theorem lowVal : dval lowText = 9223372036854775808 := by rfl
theorem bigCanon : Canon bigText := ⟨by unfold bigText isDig; decide, .inr ⟨49, _, rfl, by decide⟩⟩
theorem lowCanon : Canon lowText := ⟨by unfold lowText isDig; decide, .inr ⟨57, _, rfl, by decide⟩⟩
theorem bigDec : Lib.decDigits LB = bigText := by rw [← bigVal]; exact (canon_iff _).1 bigCanon
theorem lowDec : Lib.decDigits 9223372036854775808 = lowText := by rw [← lowVal]; exact (canon_iff _).1 lowCanon
theorem bigDigits : Lib.nDigits LB = 20 := by rw [← Lib.decDigits_length, bigDec]; rfl
theorem lowWhole : Lib.itoa (-9223372036854775808) = 45 :: lowText := by
  unfold Lib.itoa
  rw [if_pos (by omega), show (-9223372036854775808 : Int).natAbs = 9223372036854775808 from rfl, lowDec]
theorem minusZero : ¬ ∃ v, spells [45, 48] v := by
  rintro ⟨v, h1, h2⟩
  have h3 : Lib.parseIntB 64 [45, 48] = .ok 0 := by decide
  rw [h1] at h3
  injection h3 with h3
  subst h3
  have h4 : Lib.itoa 0 = [48] := by
    unfold Lib.itoa
    rw [if_neg (by omega)]
    exact Lib.decDigits_one (by omega)
  rw [h4] at h2
  cases h2
theorem no007 : ¬ Canon [48, 48, 55] := by
  rintro ⟨_, h | ⟨c, r, h, h2⟩⟩
  · cases h
  · injection h with h _
    exact h2 h.symm
theorem capOne : ¬ Fit 1 LB := by
  unfold Fit
  rw [show capN 1 = 1 from rfl, Nat.pow_one]
  exact Nat.lt_irrefl _
end

section
theorem uint_all : ∀ (l : List UInt8) (acc : Nat), (∀ c ∈ l, isDig c) → l.foldl (fun a c => a * 10 + (c.toNat - 48)) acc ≤ 18446744073709551615 →
    Lib.parseUintM 18446744073709551615 acc l = .ok (l.foldl (fun a c => a * 10 + (c.toNat - 48)) acc) := by
  intro l
  induction l with
  | nil => intro acc _ _; rfl
  | cons c r ih =>
    intro acc hd hle
    have hc := hd c (by simp)
    unfold isDig at hc
    rw [List.foldl_cons] at hle ⊢
    have hle2 : acc * 10 + (c.toNat - 48) ≤ 18446744073709551615 := by
      refine Nat.le_trans ?_ hle
      rw [dvalA_eq]
      exact Nat.le_trans (Nat.le_mul_of_pos_right _ (Nat.pow_pos (by omega))) (Nat.le_add_right _ _)
    unfold Lib.parseUintM
    rw [if_pos (by omega), if_neg (by omega), if_neg (by omega)]
    exact ih _ (fun x hx => hd x (by simp [hx])) hle

theorem uint_dec (u : Nat) (h : u ≤ 18446744073709551615) : Lib.parseUintB 64 (Lib.decDigits u) = .ok u := by
  have hd : ∀ c ∈ Lib.decDigits u, isDig c := (dec_canon u).1
  have hv : (Lib.decDigits u).foldl (fun a c => a * 10 + (c.toNat - 48)) 0 = u := by
    have := dvalA_eq (Lib.decDigits u) 0
    rw [dval_dec] at this
    omega
  unfold Lib.parseUintB
  rw [if_neg (dec_ne u)]
  have := uint_all (Lib.decDigits u) 0 hd (by rw [hv]; exact h)
  rw [hv] at this
  exact this

theorem dec_head (u : Nat) : ∃ c r, Lib.decDigits u = c :: r ∧ isDig c := by
  have hd := (dec_canon u).1
  cases hl : Lib.decDigits u with
  | nil => exact absurd hl (dec_ne u)
  | cons c r => exact ⟨c, r, rfl, hd c (by rw [hl]; simp)⟩

theorem int_dec (m : Int) (h0 : -9223372036854775808 ≤ m) (h1 : m ≤ 9223372036854775807) : Lib.parseIntB 64 (Lib.itoa m) = .ok m := by
  by_cases hn : m < 0
  · obtain ⟨u, rfl⟩ : ∃ u : Nat, m = -(u : Int) := ⟨m.natAbs, by omega⟩
    rw [Lib.itoa_neg u (by omega)]
    rw [Lib.parseIntB_minus, uint_dec u (by omega)]
    unfold Lib.signedC
    simp only
    rw [if_neg (by omega)]
  · obtain ⟨u, rfl⟩ : ∃ u : Nat, m = (u : Int) := ⟨m.toNat, by omega⟩
    rw [Lib.itoa_nonneg]
    obtain ⟨c, r, hcr, hc⟩ := dec_head u
    have hu := uint_dec u (by omega)
    unfold isDig at hc
    rw [hcr] at hu ⊢
    rw [Lib.parseIntB_plain 64 c r (by omega) (by omega), hu]
    unfold Lib.signlessC
    simp only
    rw [if_neg (by omega)]

theorem spells_itoa (m : Int) (h0 : -9223372036854775808 ≤ m) (h1 : m ≤ 9223372036854775807) : spells (Lib.itoa m) m := ⟨int_dec m h0 h1, rfl⟩
theorem spells_iff (l : List UInt8) (v : Int) : spells l v ↔ (-9223372036854775808 ≤ v ∧ v ≤ 9223372036854775807) ∧ Lib.itoa v = l := by
  constructor
  · rintro ⟨h1, h2⟩
    have := Lib.parseIntB_bounds h1
    exact ⟨by omega, h2⟩
  · rintro ⟨h, h2⟩
    subst h2
    exact spells_itoa v h.1 h.2

theorem nDigits_pow : ∀ (u : Nat), 1 ≤ u → 10 ^ (Lib.nDigits u - 1) ≤ u := by
  intro u
  induction u using Nat.strongRecOn with
  | _ u ih =>
  intro hu
  by_cases h : u < 10
  · rw [Lib.nDigits_small h]; simpa using hu
  · rw [Lib.nDigits_big h]
    have h1 := ih (u / 10) (by omega) (by omega)
    have hp : 1 ≤ Lib.nDigits (u / 10) := by
      by_cases h2 : u / 10 < 10
      · rw [Lib.nDigits_small h2]; exact Nat.le_refl _
      · rw [Lib.nDigits_big h2]; omega
    have e : Lib.nDigits (u / 10) + 1 - 1 = (Lib.nDigits (u / 10) - 1) + 1 := by omega
    rw [e, Nat.pow_succ]
    omega
theorem nDigits_pos (u : Nat) : 1 ≤ Lib.nDigits u := by
  by_cases h2 : u < 10
  · rw [Lib.nDigits_small h2]; exact Nat.le_refl _
  · rw [Lib.nDigits_big h2]; omega
theorem lt_pow_nDigits (u : Nat) : u < 10 ^ Lib.nDigits u := by
  have := dval_lt (Lib.decDigits u) (dec_canon u).1
  rwa [dval_dec, Lib.decDigits_length] at this
theorem lt_of_nDigits {M N : Nat} (h : Lib.nDigits M < Lib.nDigits N) : M < N := by
  have h1 := lt_pow_nDigits M
  have hN : 1 ≤ N := by
    rcases Nat.eq_zero_or_pos N with h0 | h0
    · subst h0
      have := nDigits_pos M
      rw [Lib.nDigits_small (u := 0) (by omega)] at h
      omega
    · exact h0
  have h2 := nDigits_pow N hN
  have h3 : 10 ^ Lib.nDigits M ≤ 10 ^ (Lib.nDigits N - 1) := Nat.pow_le_pow_right (by omega) (by omega)
  omega

theorem dval_cons (c : UInt8) (r : List UInt8) : dval (c :: r) = (c.toNat - 48) * 10 ^ r.length + dval r := by
  show (c :: r).foldl (fun a c => a * 10 + (c.toNat - 48)) 0 = _
  rw [List.foldl_cons, dvalA_eq]
  simp
theorem less_iff : ∀ (l m : List UInt8), l.length = m.length → (∀ c ∈ l, isDig c) → (∀ c ∈ m, isDig c) → Go.Op.bytesLess l m = decide (dval l < dval m) := by
  intro l
  induction l with
  | nil =>
    intro m hm _ _
    have : m = [] := by simpa using hm.symm
    subst this
    simp [Go.Op.bytesLess]
  | cons a r ih =>
    intro m hm hl hd
    cases m with
    | nil => simp at hm
    | cons b q =>
      have hlen : r.length = q.length := by simpa using hm
      have ha := hl a (by simp)
      have hb := hd b (by simp)
      have hr := dval_lt r fun x hx => hl x (by simp [hx])
      have hq := dval_lt q fun x hx => hd x (by simp [hx])
      have hi := ih q hlen (fun x hx => hl x (by simp [hx])) (fun x hx => hd x (by simp [hx]))
      unfold isDig at ha hb
      unfold Go.Op.bytesLess
      rw [hi, dval_cons, dval_cons, hlen]
      rw [hlen] at hr
      by_cases h1 : a.toNat < b.toNat
      · have e1 : a < b := UInt8.lt_iff_toNat_lt.2 h1
        have h2 : (a.toNat - 48 + 1) * 10 ^ q.length ≤ (b.toNat - 48) * 10 ^ q.length := Nat.mul_le_mul_right _ (by omega)
        rw [Nat.add_mul, Nat.one_mul] at h2
        have h3 : (a.toNat - 48) * 10 ^ q.length + dval r < (b.toNat - 48) * 10 ^ q.length + dval q := by omega
        simp [e1, h3]
      · have e1 : ¬ a < b := fun h => h1 (UInt8.lt_iff_toNat_lt.1 h)
        by_cases h2 : a.toNat = b.toNat
        · have e2 : a = b := UInt8.toNat_inj.1 h2
          subst e2
          simp
        · have e2 : (a == b) = false := by
            simp only [beq_eq_false_iff_ne]
            intro h; exact h2 (congrArg UInt8.toNat h)
          have h3 : (b.toNat - 48 + 1) * 10 ^ q.length ≤ (a.toNat - 48) * 10 ^ q.length := Nat.mul_le_mul_right _ (by omega)
          rw [Nat.add_mul, Nat.one_mul] at h3
          have h4 : ¬ (a.toNat - 48) * 10 ^ q.length + dval r < (b.toNat - 48) * 10 ^ q.length + dval q := by omega
          simp [e1, e2, h4]

/-- How two numbers and their texts are compared. -/
theorem cmp_cases (M N : Nat) (sX sY : ByteArray) (hX : sX = ⟨(Lib.decDigits M).toArray⟩) (hY : sY = ⟨(Lib.decDigits N).toArray⟩) :
    (cmpI M N = -1 ∧ sX.size < sY.size ∧ (sX.toList == sY.toList) = false) ∨
    (cmpI M N = -1 ∧ sX.size = sY.size ∧ Go.Op.bytesLess sX.toList sY.toList = true ∧ (sX.toList == sY.toList) = false) ∨
    (cmpI M N = 0 ∧ sX = sY ∧ Go.Op.bytesLess sX.toList sX.toList = false) ∨
    (cmpI M N = 1 ∧ sY.size < sX.size ∧ (sX.toList == sY.toList) = false) ∨
    (cmpI M N = 1 ∧ sX.size = sY.size ∧ Go.Op.bytesLess sX.toList sY.toList = false ∧ (sX.toList == sY.toList) = false) := by
  have lX : sX.toList = Lib.decDigits M := by rw [toList_data, hX]
  have lY : sY.toList = Lib.decDigits N := by rw [toList_data, hY]
  have zX : sX.size = Lib.nDigits M := by rw [hX, size_list, Lib.decDigits_length]
  have zY : sY.size = Lib.nDigits N := by rw [hY, size_list, Lib.decDigits_length]
  have hne : M ≠ N → (sX.toList == sY.toList) = false := by
    intro h
    rw [lX, lY, beq_eq_false_iff_ne]
    intro e
    have := congrArg dval e
    rw [dval_dec, dval_dec] at this
    exact h this
  have hb : Lib.nDigits M = Lib.nDigits N → Go.Op.bytesLess sX.toList sY.toList = decide (M < N) := by
    intro h
    rw [lX, lY, less_iff _ _ (by rw [Lib.decDigits_length, Lib.decDigits_length, h]) (dec_canon M).1 (dec_canon N).1, dval_dec, dval_dec]
  rcases Nat.lt_trichotomy M N with h | h | h
  · rcases Nat.lt_trichotomy (Lib.nDigits M) (Lib.nDigits N) with k | k | k
    · exact .inl ⟨cmpI_lt h, by omega, hne (by omega)⟩
    · exact .inr (.inl ⟨cmpI_lt h, by omega, by rw [hb k]; simpa using h, hne (by omega)⟩)
    · have := lt_of_nDigits k; omega
  · subst h
    refine .inr (.inr (.inl ⟨cmpI_eq rfl, hX.trans hY.symm, ?_⟩))
    rw [lX, less_iff _ _ rfl (dec_canon M).1 (dec_canon M).1]
    simp
  · rcases Nat.lt_trichotomy (Lib.nDigits M) (Lib.nDigits N) with k | k | k
    · have := lt_of_nDigits k; omega
    · exact .inr (.inr (.inr (.inr ⟨cmpI_gt h, by omega, by rw [hb k]; simp; omega, hne (by omega)⟩)))
    · exact .inr (.inr (.inr (.inl ⟨cmpI_gt h, by omega, hne (by omega)⟩)))
end
end Go.Proofs.YtijliimiojjjdaaDoor
