/- Plain facts for deci's Parse; the caps' sums and products, both answers at once. -/
import Derived.Test.YthcglobehoaocaaDoorDeciG
import Derived.Test.YthcglobehoaocaaDoorNatG
namespace Go.Proofs.YthcglobehoaocaaDoor
open Go.RowKit

theorem dvalA_eq (l : List UInt8) : ∀ a : Nat, l.foldl (fun a c => a * 10 + (c.toNat - 48)) a = a * 10 ^ l.length + dval l := by
  induction l with
  | nil => intro a; simp [dval]
  | cons c l ih =>
    intro a
    unfold dval
    rw [List.foldl_cons, List.foldl_cons, ih, ih (0 * 10 + (c.toNat - 48)), List.length_cons, Nat.pow_succ, Nat.add_mul, Nat.zero_mul, Nat.zero_add, Nat.mul_assoc, Nat.mul_comm 10]
    omega
theorem dval_append (l m : List UInt8) : dval (l ++ m) = dval l * 10 ^ m.length + dval m := by
  unfold dval
  rw [List.foldl_append, dvalA_eq]
  rfl

/-- A limit on a sum or a product: both answers at once. -/
theorem capMulAny (c0 : Int) {A A' : Option Addr} {n c n' c' M N b b' : Nat} {w : World} (hM : Num w b A n c M) (hN : Num w b' A' n' c' N) (hn : n ≤ 10000000000) (hn' : n' ≤ 10000000000) :
    Calls Tryd.prog 42 #[.int .i64 c0, .agg #[.slice A n c], .agg #[.slice A' n' c']] w fun e w' => ∃ A1 n1 c1 N1 ok, e = .returned (.tuple #[.agg #[.slice A1 n1 c1], .bool ok]) ∧ Num w' w.heap.size A1 n1 c1 N1 ∧ n1 ≤ n + n' ∧ (ok = true → Fit c0 (M * N) ∧ N1 = M * N) ∧ (ok = false → ¬ Fit c0 (M * N) ∧ N1 = 0) ∧ Below w.heap.size w w' := by
  by_cases h : Fit c0 (M * N)
  · exact (capMul_yes c0 hM hN hn hn' h).mono fun e w' ⟨A1, n1, c1, h1, h2, h3, h4⟩ => ⟨A1, n1, c1, M * N, true, h1, h2, h3, fun _ => ⟨h, rfl⟩, (fun h => by cases h), h4⟩
  · exact (capMul_no c0 hM hN hn hn' h).mono fun e w' ⟨h1, h2⟩ => ⟨none, 0, 0, 0, false, h1, Num.zero _ _, by omega, (fun h => by cases h), fun _ => ⟨h, rfl⟩, h2⟩
theorem capAddAny (c0 : Int) {A A' : Option Addr} {n c n' c' M N b b' : Nat} {w : World} (hM : Num w b A n c M) (hN : Num w b' A' n' c' N) (hn : n ≤ 100000000000) (hn' : n' ≤ 100000000000) :
    Calls Tryd.prog 43 #[.int .i64 c0, .agg #[.slice A n c], .agg #[.slice A' n' c']] w fun e w' => ∃ A1 n1 c1 N1 ok, e = .returned (.tuple #[.agg #[.slice A1 n1 c1], .bool ok]) ∧ Num w' w.heap.size A1 n1 c1 N1 ∧ n1 ≤ max n n' + 1 ∧ (ok = true → Fit c0 (M + N) ∧ N1 = M + N) ∧ (ok = false → ¬ Fit c0 (M + N) ∧ N1 = 0) ∧ Below w.heap.size w w' := by
  by_cases h : Fit c0 (M + N)
  · exact (capAdd_yes c0 hM hN hn hn' h).mono fun e w' ⟨A1, n1, c1, h1, h2, h3, h4⟩ => ⟨A1, n1, c1, M + N, true, h1, h2, h3, fun _ => ⟨h, rfl⟩, (fun h => by cases h), h4⟩
  · exact (capAdd_no c0 hM hN hn hn' h).mono fun e w' ⟨h1, h2⟩ => ⟨none, 0, 0, 0, false, h1, Num.zero _ _, by omega, (fun h => by cases h), fun _ => ⟨h, rfl⟩, h2⟩
theorem ofTT (w : World) : Calls Tryd.prog 27 #[.int .u64 10000000000000000000] w fun e w' => ∃ A' n' c', e = .returned (.agg #[.slice A' n' c']) ∧ Num w' w.heap.size A' n' c' TT ∧ n' ≤ 1 ∧ Below w.heap.size w w' :=
  natOf TT TT_lt w

/-- A text of digits. -/
def allDig (s : ByteArray) : Prop := ∀ i (hi : i < s.size), isDig (s[i]'hi)

/-- Where Parse's loop stands: the number so far, and what is left of the text. -/
structure ParseAt (w : World) (g4 g6 : Nat) (c0 : Int) (V L N : Nat) (A : Option Addr) (n c : Nat) (rem : ByteArray) (wr : World) : Prop where
  res : wr.cell? ⟨g4, 0, none⟩ = some (.slice none 0 0) ∧ wr.frozen? ⟨g4, 0, none⟩ = false
  var : wr.cell? ⟨g6, 0, none⟩ = some (.slice A n c) ∧ wr.frozen? ⟨g6, 0, none⟩ = false
  num : Num wr (g6 + 1) A n c N
  fit : Fit c0 N
  dig : allDig rem
  val : V = N * 10 ^ rem.size + dval rem.data.toList
  rows : N = 0 ∨ 19 ∣ rem.size
  len : rem.size ≤ L
  below : Below w.heap.size w wr

theorem num_len {w : World} {b n c N L : Nat} {A : Option Addr} (h : Num w b A n c N) (hN : N < 10 ^ L) : n ≤ L := by
  have h1 := (h.fit (L : Int)).2 (by
    unfold Fit capN
    rw [show (max (L : Int) 0).toNat = L by omega]
    exact Nat.lt_of_lt_of_le hN (Nat.pow_le_pow_left (by unfold LB; omega) L))
  unfold capN at h1
  omega

/-- Where a round of Parse stands, a limited sum or product made: T is what it should be. -/
structure Mid (w : World) (g4 g6 : Nat) (c0 : Int) (T N3 : Nat) (ok : Bool) (A : Option Addr) (n c g8 : Nat) (A3 : Option Addr) (n3 c3 : Nat) (W : World) : Prop where
  res : W.cell? ⟨g4, 0, none⟩ = some (.slice none 0 0) ∧ W.frozen? ⟨g4, 0, none⟩ = false
  var : W.cell? ⟨g6, 0, none⟩ = some (.slice A n c) ∧ W.frozen? ⟨g6, 0, none⟩ = false
  box : W.cell? ⟨g8, 0, none⟩ = some (.slice A3 n3 c3)
  num : Num W (g6 + 1) A3 n3 c3 N3
  yes : ok = true → Fit c0 T ∧ N3 = T
  no : ok = false → ¬ Fit c0 T ∧ N3 = 0
  len : n3 ≤ 1000010
  below : Below w.heap.size w W

/-- The same, ahead of the box: the call has answered in the world W; the boxes stand. -/
structure Pre (w : World) (g4 g6 : Nat) (A : Option Addr) (n c : Nat) (W : World) : Prop where
  res : W.cell? ⟨g4, 0, none⟩ = some (.slice none 0 0) ∧ W.frozen? ⟨g4, 0, none⟩ = false
  var : W.cell? ⟨g6, 0, none⟩ = some (.slice A n c) ∧ W.frozen? ⟨g6, 0, none⟩ = false
  below : Below w.heap.size w W
  le4 : w.heap.size ≤ g4
  lt4 : g4 < g6
  lt6 : g6 < W.heap.size
theorem Pre.step {w W W' : World} {g4 g6 n c : Nat} {A : Option Addr} (h : Pre w g4 g6 A n c W) (hb : Below W.heap.size W W') : Pre w g4 g6 A n c W' := by
  have h1 := bcell1 hb h.res.1 h.res.2
  have h2 := bcell1 hb h.var.1 h.var.2
  exact ⟨h1, h2, h.below.trans (hb.mono h.below.size), h.le4, h.lt4, Nat.lt_of_lt_of_le h.lt6 hb.size⟩
theorem Pre.alloc {w W : World} {g4 g6 n c : Nat} {A : Option Addr} (h : Pre w g4 g6 A n c W) (o : Obj) : Pre w g4 g6 A n c (W.alloc o) := h.step ((Below.refl _ _).alloc (Nat.le_refl _) o)
theorem Pre.drew {w W : World} {g4 g6 n c : Nat} {A : Option Addr} (h : Pre w g4 g6 A n c W) : Pre w g4 g6 A n c W.drew := ⟨h.res, h.var, h.below.drew, h.le4, h.lt4, h.lt6⟩

/-- The box is made behind the call. -/
theorem Mid.behind {w W : World} {g4 g6 n c n3 c3 T N3 b : Nat} {A A3 : Option Addr} {c0 : Int} {ok : Bool} (h : Pre w g4 g6 A n c W) (hnum : Num W b A3 n3 c3 N3) (hb : g6 + 1 ≤ b) (yes : ok = true → Fit c0 T ∧ N3 = T) (no : ok = false → ¬ Fit c0 T ∧ N3 = 0) (hl : n3 ≤ 1000010) :
    Mid w g4 g6 c0 T N3 ok A n c W.heap.size A3 n3 c3 (W.alloc (.cells #[.slice A3 n3 c3] 26)) := by
  have h' := h.alloc (.cells #[.slice A3 n3 c3] 26)
  exact ⟨h'.res, h'.var, by simp [go_sem], (hnum.alloc _).mono hb, yes, no, hl, h'.below⟩
/-- The box was made ahead of it. -/
theorem Mid.ahead {w W : World} {g4 g6 n c n3 c3 T N3 b gX : Nat} {A A3 : Option Addr} {v : Value} {c0 : Int} {ok : Bool} (h : Pre w g4 g6 A n c W) (hnum : Num W b A3 n3 c3 N3) (hb : g6 + 1 ≤ b) (hX : W.cell? ⟨gX, 0, none⟩ = some v) (hXb : gX < b) (hX6 : g6 < gX) (yes : ok = true → Fit c0 T ∧ N3 = T) (no : ok = false → ¬ Fit c0 T ∧ N3 = 0) (hl : n3 ≤ 1000010) :
    Mid w g4 g6 c0 T N3 ok A n c gX A3 n3 c3 (W.setCell ⟨gX, 0, none⟩ (.slice A3 n3 c3)) := by
  have h4 := h.lt4
  have h0 := h.le4
  refine ⟨⟨?_, ?_⟩, ⟨?_, ?_⟩, ?_, (hnum.setCell (by simpa using hXb) _).mono hb, yes, no, hl, ?_⟩
  · rw [World.cell?_setCell_other _ _ _ _ (by intro e; injection e; omega)]; exact h.res.1
  · rw [World.frozen?_setCell]; exact h.res.2
  · rw [World.cell?_setCell_other _ _ _ _ (by intro e; injection e; omega)]; exact h.var.1
  · rw [World.frozen?_setCell]; exact h.var.2
  · exact World.cell?_setCell_same _ _ _ hX
  · exact h.below.setCell (p := ⟨gX, 0, none⟩) (by show _ ≤ gX; omega) _

theorem extract_list (b : ByteArray) (i j : Nat) : (b.extract i j).data.toList = (b.data.toList.drop i).take (j - i) := by
  rw [ByteArray.data_extract, Array.toList_extract]
theorem size_len (b : ByteArray) : b.data.toList.length = b.size := Array.length_toList
theorem allDig_iff (b : ByteArray) : allDig b ↔ ∀ c ∈ b.data.toList, isDig c := by
  constructor
  · intro h c hc
    obtain ⟨i, hi, rfl⟩ := List.getElem_of_mem hc
    exact h i (by rw [size_len] at hi; exact hi)
  · intro h i hi
    exact h _ (List.getElem_mem (by rw [size_len]; exact hi))

/-- The first row of a text, and what is left behind it. -/
structure Cut (rem row rest : ByteArray) : Prop where
  rowDig : allDig row
  rowLen : row.size ≤ 19
  restDig : allDig rest
  restLen : rest.size < rem.size
  restRow : 19 ∣ rest.size
  whole : 19 ∣ rem.size → row.size = 19
  val : dval rem.data.toList = dval row.data.toList * 10 ^ rest.size + dval rest.data.toList
  len : rem.size = row.size + rest.size
theorem cut_of (rem : ByteArray) (wd : Nat) (h0 : 0 < rem.size) (hd : allDig rem) (hw : wd = (rem.size - 1) % 19 + 1) : Cut rem (rem.extract 0 wd) (rem.extract wd rem.size) := by
  have hm := Nat.div_add_mod (rem.size - 1) 19
  have hl := Nat.mod_lt (rem.size - 1) (show 0 < 19 by omega)
  have e1 := extract_list rem 0 wd
  have e2 := extract_list rem wd rem.size
  rw [List.drop_zero, Nat.sub_zero] at e1
  rw [List.take_of_length_le (by rw [List.length_drop, size_len]; exact Nat.le_refl _)] at e2
  have l1 : (rem.extract 0 wd).size = wd := by rw [← size_len, e1, List.length_take, size_len]; omega
  have l2 : (rem.extract wd rem.size).size = rem.size - wd := by rw [← size_len, e2, List.length_drop, size_len]
  rw [allDig_iff] at hd
  refine ⟨?_, by omega, ?_, by omega, ?_, ?_, ?_, by omega⟩
  · rw [allDig_iff, e1]; exact fun c hc => hd c (List.mem_of_mem_take hc)
  · rw [allDig_iff, e2]; exact fun c hc => hd c (List.mem_of_mem_drop hc)
  · rw [l2]; exact ⟨(rem.size - 1) / 19, by omega⟩
  · rintro ⟨k, hk⟩; rw [l1]; omega
  · rw [e1, e2, ← size_len (rem.extract wd rem.size), e2, ← dval_append, List.take_append_drop]
theorem cut_val {V N : Nat} {rem row rest : ByteArray} (h : Cut rem row rest) (hv : V = N * 10 ^ rem.size + dval rem.data.toList) (hr : N = 0 ∨ 19 ∣ rem.size) : V = (N * TT + dval row.data.toList) * 10 ^ rest.size + dval rest.data.toList := by
  rw [hv, h.val, Nat.add_mul]
  rcases hr with rfl | hr
  · simp
  · rw [h.len, h.whole hr, Nat.pow_add, TT_eq, Nat.mul_assoc]
    omega
theorem parse_next {w wr W8 : World} {g4 g6 g10 V L N N4 n c n4 c4 : Nat} {c0 : Int} {A A4 : Option Addr} {rem row rest : ByteArray} (hst : ParseAt w g4 g6 c0 V L N A n c rem wr) (hcut : Cut rem row rest)
    (h : Mid w g4 g6 c0 (N * TT + dval row.data.toList) N4 true A n c g10 A4 n4 c4 W8) (hg : g4 < g6) (hw : w.heap.size ≤ g4) : ParseAt w g4 g6 c0 V L (N * TT + dval row.data.toList) A4 n4 c4 rest (W8.setCell ⟨g6, 0, none⟩ (.slice A4 n4 c4)) := by
  obtain ⟨y1, y2⟩ := h.yes rfl
  refine ⟨⟨?_, ?_⟩, ⟨?_, ?_⟩, ?_, y1, hcut.restDig, cut_val hcut hst.val hst.rows, .inr hcut.restRow, Nat.le_trans (Nat.le_of_lt hcut.restLen) hst.len, h.below.setCell (p := ⟨g6, 0, none⟩) (by show _ ≤ g6; omega) _⟩
  · rw [World.cell?_setCell_other _ _ _ _ (by intro e; injection e; omega)]; exact h.res.1
  · rw [World.frozen?_setCell]; exact h.res.2
  · exact World.cell?_setCell_same _ _ _ h.var.1
  · rw [World.frozen?_setCell]; exact h.var.2
  · rw [← y2]
    exact h.num.setCell (Nat.lt_succ_self _) _
theorem ParseAt.drew {w wr : World} {g4 g6 V L N n c : Nat} {c0 : Int} {A : Option Addr} {rem : ByteArray} (h : ParseAt w g4 g6 c0 V L N A n c rem wr) : ParseAt w g4 g6 c0 V L N A n c rem wr.drew :=
  ⟨h.res, h.var, h.num, h.fit, h.dig, h.val, h.rows, h.len, h.below.drew⟩
theorem fit_fail {c0 : Int} {V N : Nat} {rem row rest : ByteArray} (h : Cut rem row rest) (hv : V = N * 10 ^ rem.size + dval rem.data.toList) (hr : N = 0 ∨ 19 ∣ rem.size) (hn : ¬ Fit c0 (N * TT + dval row.data.toList)) : ¬ Fit c0 V := by
  intro hf
  apply hn
  refine hf.mono ?_
  rw [cut_val h hv hr]
  exact Nat.le_trans (Nat.le_mul_of_pos_right _ (Nat.pow_pos (by omega))) (Nat.le_add_right _ _)
theorem cut_row_lt {rem row rest : ByteArray} (h : Cut rem row rest) : dval row.data.toList < TT := by
  have h1 := dval_lt row.data.toList ((allDig_iff row).1 h.rowDig)
  rw [size_len] at h1
  rw [TT_eq]
  exact Nat.lt_of_lt_of_le h1 (Nat.pow_le_pow_right (by omega) h.rowLen)
end Go.Proofs.YthcglobehoaocaaDoor
