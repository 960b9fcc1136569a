/- The contracts of the reference's digit, letter, IsWord, IsInt of layer 5. The contracts of the reference's IsWord, IsSign of layer 5. The contracts of the reference's IsSign, Number of layer 5. The contract of the reference's Number of layer 5. The contract of the reference's skip of layer 5. The contract of the reference's longest of layer 5. Boxes of any cells; what Next answers; the reference's Next of layer 5. Rows of tokens; the reference's All of layer 5. The reference's Right, Same, Join of layer 5. The laws of layer 5: what they share: at, ref, fault, same, refs. The laws of layer 5: rows of tokens compared, and turned. What layer 5 asks of the library's variables: strconv.ErrRange holds an error. What is asked of layer 5's functions, as the laws' walks take it (no walk of them here); the chapter's examples. The laws of layer 5: works, over the interface. The law TokenCuts, over the interface. The law TokenTells, over the interface. The law's gap: a text that is but blanks and comments. The mathematics of TokenBack's first half (no program in it): where tokens stand, what is between them, that they are right. The mathematics of TokenBack's second half (no program in it): right tokens, joined, are cut as they were. What digits spell: the reference's number and the library's (no program in it). -/
import Derived.Test.YtejifkeeihkcjaaDoorGMath
import Derived.Deep.RegionHeld3
import Derived.Deep.QuietTactic
import Derived.BigQuiet
import Derived.Below
import Derived.Lib.LaidTab
import Derived.Lib.ParseIntBCases
namespace Go.Proofs.YtejifkeeihkcjaaDoor
section
open Go.RowKit

theorem byte_is (s : ByteArray) (i : Nat) (hi : i < s.size) : ∃ c : UInt8, s.data.toList[i]? = some c ∧ ∀ w, (Go.Instr.index 9 (.string s) (.int .i64 (i : Int))).run Tryd.prog w = .ok (.int .u8 ((c.toNat : Nat) : Int)) w := by
  refine ⟨s[i]'hi, ?_, fun w => ?_⟩
  · rw [List.getElem?_eq_getElem (by rw [size_len_]; exact hi)]; rfl
  · rw [run_index_string w 9 s .i64 i Tryd.underlying9, dif_pos ⟨by omega, by omega⟩]
    simp
end

section
open Go.RowKit
end

section
open Go.RowKit

theorem strNe5 {a b : ByteArray} (h : a.data.toList ≠ b.data.toList) : (a.toList == b.toList) = false := by
  simp only [beq_eq_false_iff_ne, ne_eq, ByteArray.toList_eq]
  exact h
theorem strEq5 {a b : ByteArray} (h : a.data.toList = b.data.toList) : (a.toList == b.toList) = true := by
  simp only [beq_iff_eq, ByteArray.toList_eq]
  exact h
/-- A table of given texts, in memory. -/
def TabS (W : World) (g : Nat) (l : List (List UInt8)) : Prop := ∀ j (x : List UInt8), l[j]? = some x → W.cell? ⟨g, j, none⟩ = some (.string ⟨x.toArray⟩)
theorem TabS.new (W : World) (l : List (List UInt8)) (T : TypeId) : TabS (W.alloc (.cells (l.map fun x => Value.string ⟨x.toArray⟩).toArray T)) W.heap.size l := fun j x hx => by
  rw [cell_of_row _ _ j (l.map fun x => Value.string ⟨x.toArray⟩).toArray T (0, 0) (heap_alloc_new W _)]
  simp [hx]
end

section
open Go.RowKit

theorem u8sub (c : UInt8) : IntKind.u8.wrap (((c.toNat : Nat) : Int) - 48) = (((c - 48).toNat : Nat) : Int) := by
  have h := c.toNat_lt
  rw [IntKind.wrap_u8, UInt8.toNat_sub]
  show _ = (((2 ^ 8 - 48 + c.toNat) % 2 ^ 8 : Nat) : Int)
  omega
theorem u64mul (n : Nat) : IntKind.u64.wrap (10 * (n : Int)) = ((10 * n % LB : Nat) : Int) := by
  rw [IntKind.wrap_u64]; unfold LB; omega
theorem u64add (p d : Nat) : IntKind.u64.wrap ((p : Int) + d) = (((p + d) % LB : Nat) : Int) := by
  rw [IntKind.wrap_u64]; unfold LB; omega
theorem mulmod (n d : Nat) : (10 * n % LB + d) % LB = (10 * n + d) % LB := by rw [Nat.mod_add_mod]

/-- Each digit reckoned. -/
theorem numLoop (s : ByteArray) (i : Nat) (hi : i < s.size) : ∃ (c : UInt8) (d p q : Nat), (∀ w, (Go.Instr.index 9 (.string s) (.int .i64 (i : Int))).run Tryd.prog w = .ok (.int .u8 ((c.toNat : Nat) : Int)) w) ∧ IntKind.u8.wrap (((c.toNat : Nat) : Int) - 48) = (d : Int) ∧
    IntKind.u64.wrap (10 * (numW (s.data.toList.take i) : Int)) = (p : Int) ∧ IntKind.u64.wrap ((p : Int) + d) = (q : Int) ∧ numW (s.data.toList.take (i + 1)) = q ∧ d < 256 := by
  obtain ⟨c, hc, hidx⟩ := byte_is s i hi
  refine ⟨c, (c - 48).toNat, _, _, hidx, u8sub c, u64mul _, u64add _ _, ?_, (c - 48).toNat_lt⟩
  rw [numW_next _ i c hc, mulmod]
end

section
open Go.RowKit

theorem skipL_stop {c : UInt8} {r : List UInt8} (h : blk c = false) (h2 : c ≠ 35) : skipL (c :: r) false = 0 := by unfold skipL; rw [if_pos ⟨rfl, h, h2⟩]
theorem skipL_on {c : UInt8} {r : List UInt8} {b b' : Bool} (h : ¬ (b = false ∧ blk c = false ∧ c ≠ 35)) (h2 : ((b || c == 35) && c != 10) = b') : skipL (c :: r) b = skipL r b' + 1 := by rw [skipL, if_neg h, h2]
theorem drop_at {L : List UInt8} {j : Nat} {c : UInt8} (h : L[j]? = some c) : L.drop j = c :: L.drop (j + 1) := by
  obtain ⟨hj, e⟩ := List.getElem?_eq_some_iff.1 h
  rw [List.drop_eq_getElem_cons hj, e]
theorem u8_of {c : UInt8} {n : Nat} (hn : n < 256) (h : ((c.toNat : Nat) : Int) = n) : c = UInt8.ofNat n := by
  apply UInt8.toNat_inj.1
  rw [UInt8.toNat_ofNat_of_lt' hn]
  omega
end

section
open Go.RowKit

theorem extract_span5 (s : ByteArray) (a b : Nat) : (s.extract a b).data.toList = span s.data.toList a b := by
  rw [ByteArray.data_extract, Array.toList_extract]
  unfold span
  rw [List.drop_take]
theorem longF_end {f : Nat} {l : List UInt8} {i : Nat} {b : Nat × Nat} (h : l.length < i) : longF f l i b = b := by
  cases f with
  | zero => rfl
  | succ f => rw [longF, if_pos h]
theorem longF_hit {f : Nat} {l : List UInt8} {i k : Nat} {b : Nat × Nat} (h : i ≤ l.length) (hk : kindOf (l.take i) = some k) : longF (f + 1) l i b = longF f l (i + 1) (i, k) := by
  rw [longF, if_neg (by omega), hk]
theorem longF_stop {f : Nat} {l : List UInt8} {i : Nat} {b : Nat × Nat} (h : i ≤ l.length) (hk : kindOf (l.take i) = none) (h2 : 2 < i) : longF (f + 1) l i b = b := by
  rw [longF, if_neg (by omega), hk]
  simp only
  rw [if_pos h2]
theorem longF_on {f : Nat} {l : List UInt8} {i : Nat} {b : Nat × Nat} (h : i ≤ l.length) (hk : kindOf (l.take i) = none) (h2 : ¬ 2 < i) : longF (f + 1) l i b = longF f l (i + 1) b := by
  rw [longF, if_neg (by omega), hk]
  simp only
  rw [if_neg h2]
end

section
open Go.RowKit

/-- A token: its kind, text, number, line and column. -/
structure TokV where
  k : Int
  x : List UInt8
  n : Int
  l : Int
  c : Int
def TokV.none : TokV := ⟨0, [], 0, 0, 0⟩
def TokV.cells (t : TokV) : List Value := [.int .i64 t.k, .string ⟨t.x.toArray⟩, .int .i64 t.n, .int .i64 t.l, .int .i64 t.c]
/-- What a text gives from a place on: a token, the place behind, and a fault. -/
def errV (n k : Nat) (x : List UInt8) : Int := if n = 0 then 50 else if k = 0 ∧ 32 < n then 52 else if k = 1 ∧ (numV x).2 = false then 51 else 0
def nextQ (L : List UInt8) (q : Nat) : TokV × Nat × Int × Int × Int :=
  if q = L.length then (⟨3, [], 0, ((spot L q).1 : Nat), ((spot L q).2 : Nat)⟩, q, 0, 0, 0) else
    let nk := longL (L.drop q)
    let x := (L.drop q).take nk.1
    if errV nk.1 nk.2 x = 0 then (⟨(nk.2 : Nat), x, if nk.2 = 1 then (numV x).1 else 0, ((spot L q).1 : Nat), ((spot L q).2 : Nat)⟩, q + nk.1, 0, 0, 0)
    else (TokV.none, q, ((spot L q).1 : Nat), ((spot L q).2 : Nat), errV nk.1 nk.2 x)
def nextP (L : List UInt8) (p : Nat) : TokV × Nat × Int × Int × Int := nextQ L (p + skipL (L.drop p) false)
def clampP (L : List UInt8) (z : Int) : Nat := (max 0 (min z L.length)).toNat
def nextV (L : List UInt8) (z : Int) : TokV × Nat × Int × Int × Int := nextP L (clampP L z)
/-- The answer's value. -/
def nextA (r : TokV × Nat × Int × Int × Int) : Value := .tuple #[.agg r.1.cells.toArray, .int .i64 (r.2.1 : Nat), .agg #[.int .i64 r.2.2.1, .int .i64 r.2.2.2.1, .int .i64 r.2.2.2.2]]

theorem longF_le (f : Nat) (l : List UInt8) (i : Nat) (b : Nat × Nat) (h : b.1 ≤ l.length) : (longF f l i b).1 ≤ l.length := by
  induction f generalizing i b with
  | zero => exact h
  | succ f ih =>
    unfold longF
    split
    · exact h
    · split
      · exact ih _ _ (by simp; omega)
      · split
        · exact h
        · exact ih _ _ h
theorem longL_le (l : List UInt8) : (longL l).1 ≤ l.length := longF_le _ _ _ _ (Nat.zero_le _)
theorem longF_kind (f : Nat) (l : List UInt8) (i : Nat) (b : Nat × Nat) (h : b.2 ≤ 2) : (longF f l i b).2 ≤ 2 := by
  induction f generalizing i b with
  | zero => exact h
  | succ f ih =>
    unfold longF
    split
    · exact h
    · split
      · rename_i k hk
        refine ih _ _ ?_
        unfold kindOf at hk
        show k ≤ 2
        repeat' split at hk
        all_goals first | (injection hk with hk; omega) | cases hk
      · split
        · exact h
        · exact ih _ _ h
theorem longL_kind (l : List UInt8) : (longL l).2 ≤ 2 := longF_kind _ _ _ _ (by decide)
theorem skip_le (L : List UInt8) (p : Nat) (hp : p ≤ L.length) : p + skipL (L.drop p) false ≤ L.length := by
  have := skipL_le (L.drop p) false
  rw [List.length_drop] at this
  omega
theorem clampP_le (L : List UInt8) (z : Int) : clampP L z ≤ L.length := by unfold clampP; omega
end

section
open Go.RowKit

/-- Tokens, as the cells of a row. -/
def tcells (r : List TokV) : List Value := r.flatMap TokV.cells
theorem tcells_nil : tcells [] = [] := rfl
theorem tcells_cons (t : TokV) (r : List TokV) : tcells (t :: r) = t.cells ++ tcells r := rfl
theorem tcells_append (r t : List TokV) : tcells (r ++ t) = tcells r ++ tcells t := by unfold tcells; rw [List.flatMap_append]
theorem tcells_len (r : List TokV) : (tcells r).length = r.length * 5 := by
  induction r with
  | nil => rfl
  | cons p r ih => rw [tcells_cons]; simp [TokV.cells, ih]; omega
theorem tcells_get (r : List TokV) (i : Nat) (t : TokV) (h : r[i]? = some t) (k : Nat) (hk : k < 5) : (tcells r)[i * 5 + k]? = t.cells[k]? := by
  induction r generalizing i with
  | nil => simp at h
  | cons p r ih =>
    rw [tcells_cons]
    cases i with
    | zero =>
      simp at h
      subst h
      rw [Nat.zero_mul, Nat.zero_add, List.getElem?_append_left (by simp [TokV.cells]; omega)]
    | succ i =>
      rw [List.getElem?_append_right (by simp [TokV.cells]; omega)]
      have := ih i (by simpa using h)
      rw [← this]
      congr 1
      simp [TokV.cells]; omega
theorem tcells_oneCell (r : List TokV) : ∀ u ∈ tcells r, u.oneCell' = true := by
  intro u hu
  unfold tcells at hu
  rw [List.mem_flatMap] at hu
  obtain ⟨t, _, hu⟩ := hu
  unfold TokV.cells at hu
  simp only [List.mem_cons, List.not_mem_nil, or_false] at hu
  rcases hu with rfl | rfl | rfl | rfl | rfl <;> rfl
/-- A slice that reads as tokens. -/
def RowT (W : World) (A : Option Addr) (n : Nat) (r : List TokV) : Prop := r.length = n ∧ Reads W W.heap.size 5 A n (tcells r)
theorem RowT.below {W W' : World} {A : Option Addr} {n : Nat} {r : List TokV} (h : RowT W A n r) (hb : Below W.heap.size W W') : RowT W' A n r := ⟨h.1, (Reads.below h.2 hb).more hb.size⟩
theorem RowT.at_ {W : World} {A : Option Addr} {n : Nat} {r : List TokV} (h : RowT W A n r) {i : Nat} (hi : i < n) : ∃ ad t, A = some ad ∧ r[i]? = some t ∧ W.cell? (ad.add (i * 5)) = some (.int .i64 t.k) ∧ W.cell? (ad.add (i * 5 + 1)) = some (.string ⟨t.x.toArray⟩) ∧ W.cell? (ad.add (i * 5 + 2)) = some (.int .i64 t.n) ∧ W.cell? (ad.add (i * 5 + 3)) = some (.int .i64 t.l) ∧ W.cell? (ad.add (i * 5 + 4)) = some (.int .i64 t.c) := by
  obtain ⟨ad, e1, _, hc⟩ := h.2.2 (by omega)
  obtain ⟨t, hp⟩ : ∃ t, r[i]? = some t := ⟨r[i]'(by have := h.1; omega), List.getElem?_eq_getElem _⟩
  have g := fun k hk => tcells_get r i t hp k hk
  exact ⟨ad, t, e1, hp, hc _ _ (g 0 (by omega)), hc _ _ (g 1 (by omega)), hc _ _ (g 2 (by omega)), hc _ _ (g 3 (by omega)), hc _ _ (g 4 (by omega))⟩

/-- All tokens of a text. -/
def allF : Nat → List UInt8 → Nat → List TokV → List TokV × Int × Int × Int
  | 0, _, _, _ => ([], 0, 0, 0)
  | f + 1, L, p, acc =>
    let r := nextP L p
    if r.2.2.2.2 ≠ 0 then ([], r.2.2) else if r.1.k = 3 then (acc ++ [r.1], 0, 0, 0) else allF f L r.2.1 (acc ++ [r.1])
def allV (L : List UInt8) : List TokV × Int × Int × Int := allF (L.length + 2) L 0 []
theorem nextV_at (L : List UInt8) (p : Nat) (h : p ≤ L.length) : nextV L p = nextP L p := by
  unfold nextV clampP
  congr 1
  omega
/-- What Next tells of one that is no fault and no end: it goes on. -/
theorem nextP_on (L : List UInt8) (p : Nat) (h : p ≤ L.length) : (nextP L p).2.1 ≤ L.length ∧ ((nextP L p).2.2.2.2 = 0 → (nextP L p).1.k ≠ 3 → p < (nextP L p).2.1) := by
  have hq := skip_le L p h
  unfold nextP
  obtain ⟨q, hqq⟩ : ∃ q, q = p + skipL (L.drop p) false := ⟨_, rfl⟩
  rw [← hqq] at hq ⊢
  unfold nextQ
  by_cases he : q = L.length
  · rw [if_pos he]
    exact ⟨hq, fun _ h => absurd rfl h⟩
  · rw [if_neg he]
    obtain ⟨n, k, hnk⟩ : ∃ n k, longL (L.drop q) = (n, k) := ⟨_, _, rfl⟩
    rw [hnk]
    simp only
    have hn := longL_le (L.drop q)
    rw [hnk, List.length_drop] at hn
    simp only at hn
    by_cases hE : errV n k ((L.drop q).take n) = 0
    · rw [if_pos hE]
      refine ⟨by show q + n ≤ _; omega, fun _ _ => ?_⟩
      show p < q + n
      by_cases hn0 : n = 0
      · unfold errV at hE
        rw [if_pos hn0] at hE
        cases hE
      · omega
    · rw [if_neg hE]
      exact ⟨hq, fun h => absurd h hE⟩
end

section
open Go.RowKit

/-- Is a token right? -/
def rightV (t : TokV) : Bool :=
  if t.k = 0 then isWordB t.x && decide (t.x.length ≤ 32) && decide (t.n = 0)
  else if t.k = 1 then isIntB t.x && (numV t.x).2 && decide (t.n = (numV t.x).1)
  else if t.k = 2 then isSignB t.x && decide (t.n = 0)
  else decide (t.k = 3) && decide (t.x = []) && decide (t.n = 0)
/-- Are two the same, but for positions? -/
def sameV (a b : TokV) : Bool := decide (a.k = b.k) && decide (a.x = b.x) && decide (a.n = b.n)

/-- Tokens, joined. -/
def joinStep (a : List UInt8 × Bool) (t : TokV) : List UInt8 × Bool := if t.k = 3 then a else ((if a.2 then a.1 ++ [32] else a.1) ++ t.x, true)
def joinV (r : List TokV) : List UInt8 := (r.foldl joinStep ([], false)).1
def joinA (r : List TokV) : List UInt8 × Bool := r.foldl joinStep ([], false)
theorem joinA_next (r : List TokV) (i : Nat) (t : TokV) (h : r[i]? = some t) : joinA (r.take (i + 1)) = joinStep (joinA (r.take i)) t := by
  rw [List.take_add_one, h]
  unfold joinA
  simp
theorem joinA_len (r : List TokV) (M : Nat) (h : ∀ t ∈ r, t.x.length ≤ M) : (joinA r).1.length ≤ r.length * (M + 1) := by
  unfold joinA
  have h0 : ∀ (a : List UInt8 × Bool), (r.foldl joinStep a).1.length ≤ a.1.length + r.length * (M + 1) := by
    induction r with
    | nil => intro a; simp
    | cons t r ih =>
      intro a
      rw [List.foldl_cons]
      refine Nat.le_trans (ih (fun u hu => h u (List.mem_cons_of_mem _ hu)) _) ?_
      have ht := h t (by simp)
      have : (joinStep a t).1.length ≤ a.1.length + (M + 1) := by
        unfold joinStep
        split
        · omega
        · split <;> simp <;> omega
      rw [List.length_cons, Nat.add_mul, Nat.one_mul]
      omega
  simpa using h0 ([], false)
theorem txt5 (a b : List UInt8) : (⟨a.toArray⟩ : ByteArray) ++ ⟨b.toArray⟩ = ⟨(a ++ b).toArray⟩ := by
  apply ByteArray.ext
  simp
end

section
open Go.RowKit

theorem Box.five {W : World} {g : Nat} {a b c d e : Value} {vs : List Value} (h : Box W g (a :: b :: c :: d :: e :: vs)) : W.cell? ⟨g, 0, none⟩ = some a ∧ W.cell? ⟨g, 1, none⟩ = some b ∧ W.cell? ⟨g, 2, none⟩ = some c ∧ W.cell? ⟨g, 3, none⟩ = some d ∧ W.cell? ⟨g, 4, none⟩ = some e :=
  ⟨(h 0 _ rfl).1, (h 1 _ rfl).1, (h 2 _ rfl).1, (h 3 _ rfl).1, (h 4 _ rfl).1⟩
end

section
open Go.RowKit

/-- One token of a row, in memory. -/
def El (W : World) (p : Addr) (t : TokV) : Prop := W.cell? p = some (.int .i64 t.k) ∧ W.cell? ⟨p.block, p.off + 1, none⟩ = some (.string ⟨t.x.toArray⟩) ∧ W.cell? ⟨p.block, p.off + 2, none⟩ = some (.int .i64 t.n) ∧ W.cell? ⟨p.block, p.off + 3, none⟩ = some (.int .i64 t.l) ∧ W.cell? ⟨p.block, p.off + 4, none⟩ = some (.int .i64 t.c)
theorem El.step {W W' : World} {p : Addr} {t : TokV} (h : El W p t) (hb : Below W.heap.size W W') : El W' p t := ⟨cst5 hb h.1, cst5 hb h.2.1, cst5 hb h.2.2.1, cst5 hb h.2.2.2.1, cst5 hb h.2.2.2.2⟩
theorem RowT.el {W : World} {A : Option Addr} {n : Nat} {r : List TokV} (h : RowT W A n r) {i : Nat} (hi : i < n) : ∃ ad t, A = some ad ∧ r[i]? = some t ∧ El W (ad.add (i * 5)) t := by
  obtain ⟨ad, t, e, hr, h0, h1, h2, h3, h4⟩ := h.at_ hi
  refine ⟨ad, t, e, hr, h0, ?_, ?_, ?_, ?_⟩
  · have : W.cell? ((ad.add (i * 5)).add 1) = some (.string ⟨t.x.toArray⟩) := by rw [add_of_add]; exact h1
    exact this
  · have : W.cell? ((ad.add (i * 5)).add 2) = some (.int .i64 t.n) := by rw [add_of_add]; exact h2
    exact this
  · have : W.cell? ((ad.add (i * 5)).add 3) = some (.int .i64 t.l) := by rw [add_of_add]; exact h3
    exact this
  · have : W.cell? ((ad.add (i * 5)).add 4) = some (.int .i64 t.c) := by rw [add_of_add]; exact h4
    exact this
end

section
open Go.RowKit
end

section
open Go.RowKit

/-- A row of tokens, new with the call, that may be written over; nothing that stood before has turned. -/
def FreshT (w : World) (v : Value) (r : List TokV) (W : World) : Prop := ∃ A c, v = .slice A r.length c ∧ RowT W A r.length r ∧ (∀ ad, A = some ad → (∃ g o, ad = ⟨g, o, none⟩) ∧ w.heap.size ≤ ad.block ∧ ∀ j, j < r.length * 5 → W.frozen? (ad.add j) = false) ∧ Below w.heap.size w W
/-- The chapter's examples. -/
def exA : List UInt8 := [120, 61, 49, 60, 60, 121, 59]
def exB : List UInt8 := [97, 32, 35, 32, 98]
def exC : List UInt8 := [49, 50, 97, 98]
def exD : List UInt8 := [48, 48, 55]
def exE : List UInt8 := [120, 64, 121]
theorem allA : allV exA = ([⟨0, [120], 0, 1, 1⟩, ⟨2, [61], 0, 1, 2⟩, ⟨1, [49], 1, 1, 3⟩, ⟨2, [60, 60], 0, 1, 4⟩, ⟨0, [121], 0, 1, 6⟩, ⟨2, [59], 0, 1, 7⟩, ⟨3, [], 0, 1, 8⟩], 0, 0, 0) := by kernel_rfl
theorem allB : allV exB = ([⟨0, [97], 0, 1, 1⟩, ⟨3, [], 0, 1, 6⟩], 0, 0, 0) := by kernel_rfl
theorem allC : allV exC = ([⟨1, [49, 50], 12, 1, 1⟩, ⟨0, [97, 98], 0, 1, 3⟩, ⟨3, [], 0, 1, 5⟩], 0, 0, 0) := by kernel_rfl
theorem allD : allV exD = ([], 1, 1, 51) := by kernel_rfl
theorem allE : allV exE = ([], 1, 2, 50) := by kernel_rfl
end

section
open Go.RowKit

/-- Cells that are kept while nothing old is turned. -/
structure CL (w : World) (l : List (Addr × Value)) (W : World) : Prop where
  cells : ∀ q ∈ l, W.cell? q.1 = some q.2
  below : Below w.heap.size w W
theorem CL.step {w W W' : World} {l : List (Addr × Value)} (h : CL w l W) (hb : Below W.heap.size W W') : CL w l W' := ⟨fun q hq => cst5 hb (h.cells q hq), h.below.trans (hb.mono h.below.size)⟩
theorem CL.cons {w W : World} {l : List (Addr × Value)} (h : CL w l W) {p : Addr} {u : Value} (hc : W.cell? p = some u) : CL w ((p, u) :: l) W := ⟨fun q hq => by
  rcases List.mem_cons.1 hq with rfl | hq
  · exact hc
  · exact h.cells q hq, h.below⟩
theorem CL.new {w W : World} {l : List (Addr × Value)} (h : CL w l W) (a b c : Value) (T : TypeId) : CL w ((⟨W.heap.size, 0, none⟩, a) :: (⟨W.heap.size, 1, none⟩, b) :: (⟨W.heap.size, 2, none⟩, c) :: l) (W.alloc (.cells #[a, b, c] T)) := by
  have hb := (Box.new W [a, b, c] T).three
  exact (((h.step (bnew5 W (.cells #[a, b, c] T))).cons hb.2.2).cons hb.2.1).cons hb.1
theorem CL.head {w W : World} {l : List (Addr × Value)} {p : Addr} {u : Value} (h : CL w ((p, u) :: l) W) : W.cell? p = some u := h.cells _ (List.mem_cons_self ..)
theorem CL.tail {w W : World} {l : List (Addr × Value)} {q : Addr × Value} (h : CL w (q :: l) W) : CL w l W := ⟨fun r hr => h.cells r (List.mem_cons_of_mem _ hr), h.below⟩
theorem oneA {W : World} {A : Option Addr} (h : RowT W A 7 [⟨0, [120], 0, 1, 1⟩, ⟨2, [61], 0, 1, 2⟩, ⟨1, [49], 1, 1, 3⟩, ⟨2, [60, 60], 0, 1, 4⟩, ⟨0, [121], 0, 1, 6⟩, ⟨2, [59], 0, 1, 7⟩, ⟨3, [], 0, 1, 8⟩]) : ∃ ad, A = some ad ∧ W.cell? (ad.add 16) = some (.string ⟨#[60, 60]⟩) ∧ W.cell? (ad.add 12) = some (.int .i64 1) ∧ W.cell? (ad.add 30) = some (.int .i64 3) := by
  obtain ⟨ad, t, e, ht, _, h3, _⟩ := h.at_ (i := 3) (by omega)
  obtain ⟨ad', t', e', ht', _, _, h2, _⟩ := h.at_ (i := 2) (by omega)
  obtain ⟨ad'', t'', e'', ht'', h6, _⟩ := h.at_ (i := 6) (by omega)
  simp at ht ht' ht''
  subst e
  simp at e' e''
  subst e' e'' ht ht' ht''
  exact ⟨ad, rfl, h3, h2, h6⟩
theorem oneB {W : World} {A : Option Addr} (h : RowT W A 2 [⟨0, [97], 0, 1, 1⟩, ⟨3, [], 0, 1, 6⟩]) : ∃ ad, A = some ad ∧ W.cell? (ad.add 8) = some (.int .i64 1) ∧ W.cell? (ad.add 9) = some (.int .i64 6) := by
  obtain ⟨ad, t, e, ht, _, _, _, h3, h4⟩ := h.at_ (i := 1) (by omega)
  simp at ht
  subst ht
  exact ⟨ad, e, h3, h4⟩
theorem oneC {W : World} {A : Option Addr} (h : RowT W A 3 [⟨1, [49, 50], 12, 1, 1⟩, ⟨0, [97, 98], 0, 1, 3⟩, ⟨3, [], 0, 1, 5⟩]) : ∃ ad, A = some ad ∧ W.cell? (ad.add 6) = some (.string ⟨#[97, 98]⟩) := by
  obtain ⟨ad, t, e, ht, _, h3, _⟩ := h.at_ (i := 1) (by omega)
  simp at ht
  subst ht
  exact ⟨ad, e, h3⟩
end

section
open Go.RowKit

theorem allF_len (f : Nat) (L : List UInt8) (p : Nat) (acc : List TokV) : (allF f L p acc).1.length ≤ acc.length + f := by
  induction f generalizing p acc with
  | zero => simp [allF]
  | succ f ih =>
    unfold allF
    simp only
    split
    · simp
    · split
      · simp; try omega
      · refine Nat.le_trans (ih _ _) ?_
        simp; omega
theorem allV_len (L : List UInt8) : (allV L).1.length ≤ L.length + 2 := by
  have := allF_len (L.length + 2) L 0 []
  simpa [allV] using this

/-- What TokenCuts keeps. -/
structure KC (w : World) (gf gt gg gx gh : Nat) (bf bt bg : List Value) (A : Option Addr) (r : List TokV) (W : World) : Prop where
  f : Box W gf bf
  t : Box W gt bt
  g : Box W gg bg
  x : Box W gx bt
  h : Box W gh bg
  row : RowT W A r.length r
  below : Below w.heap.size w W
theorem KC.step {w W W' : World} {gf gt gg gx gh : Nat} {bf bt bg : List Value} {A : Option Addr} {r : List TokV} (k : KC w gf gt gg gx gh bf bt bg A r W) (hb : Below W.heap.size W W') : KC w gf gt gg gx gh bf bt bg A r W' :=
  ⟨k.f.step hb, k.t.step hb, k.g.step hb, k.x.step hb, k.h.step hb, k.row.below hb, bth5 k.below hb⟩

/-- What its loop keeps. -/
structure KL (w : World) (gf : Nat) (bf : List Value) (A : Option Addr) (r : List TokV) (W : World) : Prop where
  f : Box W gf bf
  row : RowT W A r.length r
  below : Below w.heap.size w W
theorem KL.step {w W W' : World} {gf : Nat} {bf : List Value} {A : Option Addr} {r : List TokV} (k : KL w gf bf A r W) (hb : Below W.heap.size W W') : KL w gf bf A r W' := ⟨k.f.step hb, k.row.below hb, bth5 k.below hb⟩

/-- A row of tokens that may be written over. -/
def CA (W : World) (g o n : Nat) : Prop := ∀ i, i < n → ∀ k, k < 5 → (∃ v, W.cell? ⟨g, o + i * 5 + k, none⟩ = some v) ∧ W.frozen? ⟨g, o + i * 5 + k, none⟩ = false
theorem CA.step {W W' : World} {g o n : Nat} (h : CA W g o n) (hb : Below W.heap.size W W') : CA W' g o n := fun i hi k hk => by
  obtain ⟨⟨v, hv⟩, hf⟩ := h i hi k hk
  have hlt := World.block_lt_of_cell? W ⟨g, o + i * 5 + k, none⟩ hv
  exact ⟨⟨v, cst5 hb hv⟩, (hb.frozen (p := ⟨g, o + i * 5 + k, none⟩) hlt).trans hf⟩
theorem CA.set_ {W : World} {g o n : Nat} (h : CA W g o n) (p : Addr) (u : Value) : CA (W.setCell p u) g o n := fun i hi k hk => by
  obtain ⟨⟨v, hv⟩, hf⟩ := h i hi k hk
  refine ⟨?_, by simpa using hf⟩
  by_cases e : ⟨g, o + i * 5 + k, none⟩ = p
  · rw [e] at hv ⊢; exact ⟨u, World.cell?_setCell_same _ _ _ hv⟩
  · exact ⟨v, (World.cell?_setCell_other _ _ _ _ (fun h => e h.symm)).trans hv⟩
theorem add_lit_ (g o n : Nat) : Addr.add ⟨g, o, none⟩ n = ⟨g, o + n, none⟩ := by
  unfold Addr.add
  split <;> simp_all
/-- What a new row's address is, and that it may be written over. -/
theorem fresh_ca {W : World} {A : Option Addr} {B : Nat} {r : List TokV} (h : RowT W A r.length r) (hf : ∀ ad, A = some ad → (∃ g o, ad = ⟨g, o, none⟩) ∧ B ≤ ad.block ∧ ∀ j, j < r.length * 5 → W.frozen? (ad.add j) = false) : r.length = 0 ∨ ∃ g o, A = some ⟨g, o, none⟩ ∧ B ≤ g ∧ CA W g o r.length := by
  by_cases h0 : r.length = 0
  · exact Or.inl h0
  · right
    obtain ⟨ad, t, e, _⟩ := h.at_ (i := 0) (by omega)
    obtain ⟨⟨g, o, rfl⟩, hB, hz⟩ := hf ad e
    refine ⟨g, o, e, hB, fun i hi k hk => ⟨?_, ?_⟩⟩
    · obtain ⟨ad, t, e', ht, h0, h1, h2, h3, h4⟩ := h.at_ hi
      rw [e] at e'
      injection e' with e'
      subst e'
      rw [add_lit_] at h0 h1 h2 h3 h4
      match k, hk with
      | 0, _ => exact ⟨_, h0⟩
      | 1, _ => exact ⟨_, by rw [Nat.add_assoc]; exact h1⟩
      | 2, _ => exact ⟨_, by rw [Nat.add_assoc]; exact h2⟩
      | 3, _ => exact ⟨_, by rw [Nat.add_assoc]; exact h3⟩
      | 4, _ => exact ⟨_, by rw [Nat.add_assoc]; exact h4⟩
    · have := hz (i * 5 + k) (by omega)
      rw [add_lit_] at this
      rw [Nat.add_assoc]
      exact this
theorem below_set5 {B : Nat} {w W : World} (h : Below B w W) (g o : Nat) (hp : B ≤ g) (u0 u1 u2 u3 u4 : Value) : Below B w (((((W.setCell ⟨g, o, none⟩ u0).setCell ⟨g, o + 1, none⟩ u1).setCell ⟨g, o + 2, none⟩ u2).setCell ⟨g, o + 3, none⟩ u3).setCell ⟨g, o + 4, none⟩ u4) :=
  ((((h.setCell (p := ⟨g, o, none⟩) hp u0).setCell (p := ⟨g, o + 1, none⟩) hp u1).setCell (p := ⟨g, o + 2, none⟩) hp u2).setCell (p := ⟨g, o + 3, none⟩) hp u3).setCell (p := ⟨g, o + 4, none⟩) hp u4
theorem ca_set5 {W : World} {g0 o0 n : Nat} (h : CA W g0 o0 n) (g o : Nat) (u0 u1 u2 u3 u4 : Value) : CA (((((W.setCell ⟨g, o, none⟩ u0).setCell ⟨g, o + 1, none⟩ u1).setCell ⟨g, o + 2, none⟩ u2).setCell ⟨g, o + 3, none⟩ u3).setCell ⟨g, o + 4, none⟩ u4) g0 o0 n :=
  ((((h.set_ _ _).set_ _ _).set_ _ _).set_ _ _).set_ _ _
end

section
open Go.RowKit

/-- What TokenTells keeps. -/
structure KD (w : World) (ga gb : Nat) (ba bb : List Value) (A : Option Addr) (r : List TokV) (W : World) : Prop where
  a : Box W ga ba
  b : Box W gb bb
  row : RowT W A r.length r
  below : Below w.heap.size w W
theorem KD.step {w W W' : World} {ga gb : Nat} {ba bb : List Value} {A : Option Addr} {r : List TokV} (k : KD w ga gb ba bb A r W) (hb : Below W.heap.size W W') : KD w ga gb ba bb A r W' :=
  ⟨k.a.step hb, k.b.step hb, k.row.below hb, bth5 k.below hb⟩
/-- And the tokens as the reference has them. -/
structure KE (w : World) (ga gb : Nat) (ba bb : List Value) (A A' : Option Addr) (r : List TokV) (W : World) : Prop where
  a : Box W ga ba
  b : Box W gb bb
  row : RowT W A r.length r
  ref : RowT W A' r.length r
  below : Below w.heap.size w W
theorem KE.step {w W W' : World} {ga gb : Nat} {ba bb : List Value} {A A' : Option Addr} {r : List TokV} (k : KE w ga gb ba bb A A' r W) (hb : Below W.heap.size W W') : KE w ga gb ba bb A A' r W' :=
  ⟨k.a.step hb, k.b.step hb, k.row.below hb, k.ref.below hb, bth5 k.below hb⟩
end

section
open Go.RowKit

def gapL : List UInt8 → Bool → Bool
  | [], _ => true
  | c :: r, inn => if inn = false ∧ blk c = false ∧ c ≠ 35 then false else gapL r ((inn || c == 35) && c != 10)
theorem gapL_stop {c : UInt8} {r : List UInt8} (h : blk c = false) (h2 : c ≠ 35) : gapL (c :: r) false = false := by unfold gapL; rw [if_pos ⟨rfl, h, h2⟩]
theorem gapL_on {c : UInt8} {r : List UInt8} {b b' : Bool} (h : ¬ (b = false ∧ blk c = false ∧ c ≠ 35)) (h2 : ((b || c == 35) && c != 10) = b') : gapL (c :: r) b = gapL r b' := by rw [gapL, if_neg h, h2]
/-- What skip passes over is a gap. -/
theorem gap_skip (l : List UInt8) (b : Bool) : gapL (l.take (skipL l b)) b = true := by
  induction l generalizing b with
  | nil => rfl
  | cons c r ih =>
    by_cases h : b = false ∧ blk c = false ∧ c ≠ 35
    · rw [skipL, if_pos h]; rfl
    · rw [skipL, if_neg h, List.take_succ_cons, gapL, if_neg h]
      exact ih _
end

section
open Go.RowKit

theorem longF_spec (f : Nat) (l : List UInt8) (i : Nat) (b : Nat × Nat) (h : b.1 ≠ 0 → kindOf (l.take b.1) = some b.2) : (longF f l i b).1 ≠ 0 → kindOf (l.take (longF f l i b).1) = some (longF f l i b).2 := by
  induction f generalizing i b with
  | zero => exact h
  | succ f ih =>
    unfold longF
    split
    · exact h
    · split
      · rename_i k hk
        exact ih _ _ (fun _ => hk)
      · split
        · exact h
        · exact ih _ _ h
theorem longL_spec (l : List UInt8) (h : (longL l).1 ≠ 0) : kindOf (l.take (longL l).1) = some (longL l).2 := longF_spec _ _ _ _ (fun h => absurd rfl h) h
theorem kindOf_0 {x : List UInt8} (h : kindOf x = some 0) : isWordB x = true := by
  unfold kindOf at h
  repeat' split at h
  all_goals first | assumption | (injection h with h; omega) | cases h
theorem kindOf_1 {x : List UInt8} (h : kindOf x = some 1) : isIntB x = true := by
  unfold kindOf at h
  repeat' split at h
  all_goals first | assumption | (injection h with h; omega) | cases h
theorem kindOf_2 {x : List UInt8} (h : kindOf x = some 2) : isSignB x = true := by
  unfold kindOf at h
  repeat' split at h
  all_goals first | (rename_i h2; exact h2.2) | (injection h with h; omega) | cases h

/-- A token that stands at q, from p on but a gap ahead of it. -/
structure AtT (L : List UInt8) (p q : Nat) (t : TokV) : Prop where
  le : p ≤ q
  fits : q + t.x.length ≤ L.length
  row : t.l = ((spot L q).1 : Nat)
  col : t.c = ((spot L q).2 : Nat)
  text : (L.drop q).take t.x.length = t.x
  gap : gapL ((L.drop p).take (q - p)) false = true
  right : rightV t = true
  last : t.k = 3 → q + t.x.length = L.length

theorem next_at (L : List UInt8) (p : Nat) (hp : p ≤ L.length) (he : (nextP L p).2.2.2.2 = 0) : ∃ q, AtT L p q (nextP L p).1 ∧ (nextP L p).2.1 = q + (nextP L p).1.x.length := by
  have hq := skip_le L p hp
  have hg := gap_skip (L.drop p) false
  unfold nextP at he ⊢
  obtain ⟨q, hqq⟩ : ∃ q, q = p + skipL (L.drop p) false := ⟨_, rfl⟩
  rw [show skipL (L.drop p) false = q - p by omega] at hg
  rw [← hqq] at hq he ⊢
  have hpq : p ≤ q := by omega
  clear hqq
  refine ⟨q, ?_⟩
  unfold nextQ at he ⊢
  by_cases hL : q = L.length
  · rw [if_pos hL]
    exact ⟨⟨hpq, by simp; omega, rfl, rfl, by simp, hg, by simp [rightV], fun _ => by simp; omega⟩, by simp⟩
  · rw [if_neg hL] at he ⊢
    have hn := longL_le (L.drop q)
    have hs := longL_spec (L.drop q)
    have hk2 := longL_kind (L.drop q)
    obtain ⟨n, k, hnk⟩ : ∃ n k, longL (L.drop q) = (n, k) := ⟨_, _, rfl⟩
    rw [hnk] at he hn hs hk2 ⊢
    simp only at he hn hs hk2 ⊢
    rw [List.length_drop] at hn
    have hxl : ((L.drop q).take n).length = n := by rw [List.length_take, List.length_drop]; omega
    generalize hx : (L.drop q).take n = x at *
    by_cases hE : errV n k x = 0
    · rw [if_pos hE] at he ⊢
      simp only
      have hn0 : n ≠ 0 := by
        intro h
        rw [h] at hE
        simp [errV] at hE
      have hs := hs hn0
      refine ⟨⟨hpq, by simp only; omega, rfl, rfl, by simp only; rw [hxl]; exact hx, hg, ?_, ?_⟩, by omega⟩
      · unfold errV at hE
        rw [if_neg hn0] at hE
        have hk : k = 0 ∨ k = 1 ∨ k = 2 := by omega
        unfold rightV
        rcases hk with rfl | rfl | rfl
        · have h32 : ¬ 32 < n := fun h => by rw [if_pos ⟨rfl, h⟩] at hE; cases hE
          have := kindOf_0 hs
          simp [this, hxl]; omega
        · have hv : (numV x).2 = true := by
            cases h : (numV x).2 with
            | true => rfl
            | false => rw [if_neg (by omega), if_pos ⟨rfl, h⟩] at hE; cases hE
          have := kindOf_1 hs
          simp [this, hv]
        · have := kindOf_2 hs
          simp [this]
      · intro h
        simp only at h
        omega
    · rw [if_neg hE] at he
      simp only at he
      exact absurd he hE

/-- Tokens one behind the other, an end at the end. -/
def Chain (L : List UInt8) : Nat → List TokV → Prop
  | _, [] => False
  | p, t :: r => ∃ q, AtT L p q t ∧ (t.k = 3 ↔ r = []) ∧ (r ≠ [] → Chain L (q + t.x.length) r)
theorem allF_chain (f : Nat) (L : List UInt8) (p : Nat) (acc : List TokV) (hp : p ≤ L.length) (hf : L.length + 2 ≤ f + p) (he : (allF f L p acc).2.2.2 = 0) : ∃ r, (allF f L p acc).1 = acc ++ r ∧ Chain L p r := by
  induction f generalizing p acc with
  | zero => omega
  | succ f ih =>
    unfold allF at he ⊢
    simp only at he ⊢
    by_cases h1 : (nextP L p).2.2.2.2 ≠ 0
    · rw [if_pos h1] at he
      exact absurd he h1
    · rw [if_neg h1] at he ⊢
      have h0 : (nextP L p).2.2.2.2 = 0 := by omega
      obtain ⟨q, hat, hnx⟩ := next_at L p hp h0
      by_cases h3 : (nextP L p).1.k = 3
      · rw [if_pos h3]
        exact ⟨[(nextP L p).1], rfl, q, hat, ⟨fun _ => rfl, fun _ => h3⟩, fun h => absurd rfl h⟩
      · rw [if_neg h3] at he ⊢
        have ho := nextP_on L p hp
        have hlt := ho.2 h0 h3
        obtain ⟨r, hr, hc⟩ := ih _ _ ho.1 (by omega) he
        refine ⟨(nextP L p).1 :: r, by rw [hr]; simp, q, hat, ⟨fun h => absurd h h3, fun h => ?_⟩, fun _ => by rw [← hnx]; exact hc⟩
        rw [h] at hc
        exact absurd hc (by simp [Chain])
theorem allV_chain (L : List UInt8) (he : (allV L).2.2.2 = 0) : Chain L 0 (allV L).1 := by
  obtain ⟨r, hr, hc⟩ := allF_chain (L.length + 2) L 0 [] (Nat.zero_le _) (by omega) he
  rw [List.nil_append] at hr
  unfold allV
  rw [hr]
  exact hc
end

section
open Go.RowKit

theorem word_all {l : List UInt8} (h : isWordB l = true) : ∀ c ∈ l, (ltr c || dgt c) = true := by
  cases l with
  | nil => simp [isWordB] at h
  | cons c r =>
    simp only [isWordB, Bool.and_eq_true, List.all_eq_true] at h
    intro d hd
    rcases List.mem_cons.1 hd with rfl | hd
    · rw [h.1]; rfl
    · exact h.2 d hd
theorem int_all {l : List UInt8} (h : isIntB l = true) : l ≠ [] ∧ ∀ c ∈ l, dgt c = true := by
  unfold isIntB at h
  simpa [List.all_eq_true] using h
theorem sign_none : ∀ y ∈ signs, (32 : UInt8) ∉ y := by decide
theorem sign_kind : ∀ y ∈ signs, kindOf y = some 2 ∧ y.length ≤ 2 ∧ y ≠ [] ∧ (∀ c r, y = c :: r → blk c = false ∧ c ≠ 35) := by
  intro y hy
  have : ∀ y ∈ signs, (kindOf y == some 2) = true ∧ (decide (y.length ≤ 2)) = true ∧ (match y with | [] => false | c :: _ => !blk c && c != 35) = true := by decide
  obtain ⟨h1, h2, h3⟩ := this y hy
  refine ⟨by simpa using h1, by simpa using h2, ?_, ?_⟩
  · rintro rfl; simp at h3
  · rintro c r rfl; simpa using h3
theorem isSign_mem {y : List UInt8} (h : isSignB y = true) : y ∈ signs := by
  unfold isSignB at h
  simpa using h
theorem kind_blank {y : List UInt8} (h : (32 : UInt8) ∈ y) : kindOf y = none := by
  have h1 : isWordB y = false := by
    rw [Bool.eq_false_iff]
    intro hw
    have := word_all hw 32 h
    revert this; decide
  have h2 : isIntB y = false := by
    rw [Bool.eq_false_iff]
    intro hw
    have := (int_all hw).2 32 h
    revert this; decide
  have h3 : isSignB y = false := by
    rw [Bool.eq_false_iff]
    intro hw
    exact sign_none y (isSign_mem hw) h
  unfold kindOf
  simp [h1, h2, h3]
theorem word_take {x : List UInt8} (h : isWordB x = true) {i : Nat} (hi : 1 ≤ i) : isWordB (x.take i) = true := by
  cases x with
  | nil => simp [isWordB] at h
  | cons c r =>
    obtain ⟨j, rfl⟩ : ∃ j, i = j + 1 := ⟨i - 1, by omega⟩
    rw [List.take_succ_cons]
    simp only [isWordB, Bool.and_eq_true, List.all_eq_true] at h ⊢
    exact ⟨h.1, fun d hd => h.2 d (List.mem_of_mem_take hd)⟩
theorem int_take {x : List UInt8} (h : isIntB x = true) {i : Nat} (hi : 1 ≤ i) : isIntB (x.take i) = true := by
  have h2 := int_all h
  cases x with
  | nil => exact absurd rfl h2.1
  | cons c r =>
    obtain ⟨j, rfl⟩ : ∃ j, i = j + 1 := ⟨i - 1, by omega⟩
    rw [List.take_succ_cons]
    unfold isIntB
    simp only [List.isEmpty_cons, Bool.not_false, Bool.true_and, List.all_eq_true]
    intro d hd
    rcases List.mem_cons.1 hd with rfl | hd
    · exact h2.2 _ (List.mem_cons_self ..)
    · exact h2.2 d (List.mem_cons_of_mem _ (List.mem_of_mem_take hd))
theorem ltr_not {c : UInt8} (h : dgt c = true) : ltr c = false := by
  unfold dgt at h
  unfold ltr
  simp at h ⊢
  omega
theorem plain_ltr {c : UInt8} (h : ltr c = true) : blk c = false ∧ c ≠ 35 := by
  unfold ltr at h
  unfold blk
  simp at h ⊢
  refine ⟨by omega, ?_⟩
  rintro rfl
  revert h; decide
theorem plain_dgt {c : UInt8} (h : dgt c = true) : blk c = false ∧ c ≠ 35 := by
  unfold dgt at h
  unfold blk
  simp at h ⊢
  refine ⟨by omega, ?_⟩
  rintro rfl
  revert h; decide
/-- What a right token's text is, for the cut. -/
structure Cut (x : List UInt8) (k : Nat) : Prop where
  kind : kindOf x = some k
  ne : x ≠ []
  head : ∀ c r, x = c :: r → blk c = false ∧ c ≠ 35
  pre : ∀ i, 1 ≤ i → i < x.length → kindOf (x.take i) ≠ none ∨ i ≤ 2
theorem cut_word {x : List UInt8} (h : isWordB x = true) : Cut x 0 := by
  refine ⟨by unfold kindOf; rw [if_pos h], ?_, ?_, fun i hi _ => Or.inl (by unfold kindOf; rw [if_pos (word_take h hi)]; simp)⟩
  · rintro rfl; simp [isWordB] at h
  · rintro c r rfl
    simp only [isWordB, Bool.and_eq_true] at h
    exact plain_ltr h.1
theorem cut_int {x : List UInt8} (h : isIntB x = true) : Cut x 1 := by
  have key : ∀ y : List UInt8, isIntB y = true → kindOf y = some 1 := by
    intro y hy
    have h2 := int_all hy
    have hw : isWordB y = false := by
      cases y with
      | nil => rfl
      | cons c r => simp [isWordB, ltr_not (h2.2 c (List.mem_cons_self ..))]
    unfold kindOf
    rw [if_neg (by rw [hw]; simp), if_pos hy]
  refine ⟨key x h, (int_all h).1, ?_, fun i hi _ => Or.inl (by rw [key _ (int_take h hi)]; simp)⟩
  rintro c r rfl
  exact plain_dgt ((int_all h).2 c (List.mem_cons_self ..))
theorem cut_sign {x : List UInt8} (h : isSignB x = true) : Cut x 2 := by
  obtain ⟨h1, h2, h3, h4⟩ := sign_kind x (isSign_mem h)
  exact ⟨h1, h3, h4, fun i _ hi => Or.inr (by omega)⟩

/-- A rest that ends a token: nothing, or a blank ahead. -/
def Ends (m : List UInt8) : Prop := m = [] ∨ ∃ r, m = 32 :: r
theorem longF_past (f : Nat) (x m : List UInt8) (hm : Ends m) (i : Nat) (hi : x.length < i) (b : Nat × Nat) : longF f (x ++ m) i b = b := by
  induction f generalizing i with
  | zero => rfl
  | succ f ih =>
    unfold longF
    by_cases hl : (x ++ m).length < i
    · rw [if_pos hl]
    · rw [if_neg hl]
      have hk : kindOf ((x ++ m).take i) = none := by
        apply kind_blank
        rcases hm with rfl | ⟨r, rfl⟩
        · simp at hl; omega
        · rw [List.take_append, List.mem_append]
          right
          obtain ⟨j, hj⟩ : ∃ j, i - x.length = j + 1 := ⟨i - x.length - 1, by omega⟩
          rw [hj, List.take_succ_cons]
          exact List.mem_cons_self ..
      rw [hk]
      simp only
      split
      · rfl
      · exact ih _ (by omega)
theorem longF_up (x m : List UInt8) (k : Nat) (h : Cut x k) (hm : Ends m) (d : Nat) : ∀ (f i : Nat) (b : Nat × Nat), 1 ≤ i → i + d = x.length → d < f → longF f (x ++ m) i b = (x.length, k) := by
  induction d with
  | zero =>
    intro f i b hi hid hf
    obtain ⟨f, rfl⟩ : ∃ g, f = g + 1 := ⟨f - 1, by omega⟩
    have hix : i = x.length := by omega
    unfold longF
    rw [if_neg (by simp; omega)]
    have : (x ++ m).take i = x := by rw [hix]; simp
    rw [this, h.kind]
    simp only
    rw [longF_past _ _ _ hm _ (by omega), hix]
  | succ d ih =>
    intro f i b hi hid hf
    obtain ⟨f, rfl⟩ : ∃ g, f = g + 1 := ⟨f - 1, by omega⟩
    unfold longF
    rw [if_neg (by simp; omega)]
    have ht : (x ++ m).take i = x.take i := by rw [List.take_append_of_le_length (by omega)]
    rw [ht]
    cases hk : kindOf (x.take i) with
    | some k' => exact ih _ _ _ (by omega) (by omega) (by omega)
    | none =>
      simp only
      rcases h.pre i hi (by omega) with h2 | h2
      · exact absurd hk h2
      · rw [if_neg (by omega)]
        exact ih _ _ _ (by omega) (by omega) (by omega)
theorem longL_cut (x m : List UInt8) (k : Nat) (h : Cut x k) (hm : Ends m) : longL (x ++ m) = (x.length, k) := by
  have hx : 1 ≤ x.length := by
    have := h.ne
    cases x with
    | nil => exact absurd rfl this
    | cons c r => simp
  exact longF_up x m k h hm (x.length - 1) _ 1 _ (by omega) (by omega) (by simp; omega)
theorem skip_cut (x m : List UInt8) (k : Nat) (h : Cut x k) : skipL (x ++ m) false = 0 := by
  cases x with
  | nil => exact absurd rfl h.ne
  | cons c r =>
    obtain ⟨h1, h2⟩ := h.head c r rfl
    exact skipL_stop h1 h2

theorem right_cut {t : TokV} (h : rightV t = true) (h3 : t.k ≠ 3) : ∃ k : Nat, t.k = k ∧ Cut t.x k ∧ errV t.x.length k t.x = 0 ∧ t.n = if k = 1 then (numV t.x).1 else 0 := by
  unfold rightV at h
  have hl : Cut t.x 0 ∨ Cut t.x 1 ∨ Cut t.x 2 → t.x.length ≠ 0 := by
    intro hc h0
    have h0 := List.eq_nil_of_length_eq_zero h0
    rcases hc with hc | hc | hc <;> exact hc.ne h0
  by_cases h0 : t.k = 0
  · rw [if_pos h0] at h
    simp only [Bool.and_eq_true, decide_eq_true_eq] at h
    have hc := cut_word h.1.1
    refine ⟨0, h0, hc, ?_, h.2⟩
    unfold errV
    rw [if_neg (hl (.inl hc)), if_neg (by omega), if_neg (by omega)]
  · rw [if_neg h0] at h
    by_cases h1 : t.k = 1
    · rw [if_pos h1] at h
      simp only [Bool.and_eq_true, decide_eq_true_eq] at h
      have hc := cut_int h.1.1
      refine ⟨1, h1, hc, ?_, h.2⟩
      unfold errV
      rw [if_neg (hl (.inr (.inl hc))), if_neg (by omega), if_neg (by rw [h.1.2]; simp)]
    · rw [if_neg h1] at h
      by_cases h2 : t.k = 2
      · rw [if_pos h2] at h
        simp only [Bool.and_eq_true, decide_eq_true_eq] at h
        have hc := cut_sign h.1
        refine ⟨2, h2, hc, ?_, h.2⟩
        unfold errV
        rw [if_neg (hl (.inr (.inr hc))), if_neg (by omega), if_neg (by omega)]
      · rw [if_neg h2] at h
        simp only [Bool.and_eq_true, decide_eq_true_eq] at h
        exact absurd h.1.1 h3

/-- One step of the cut of joined tokens. -/
theorem next_cut (L : List UInt8) (p : Nat) (_hp : p ≤ L.length) (sp : List UInt8) (hsp : sp = [] ∨ sp = [32]) (t : TokV) (m : List UInt8) (hm : Ends m) (h : rightV t = true) (h3 : t.k ≠ 3) (hd : L.drop p = sp ++ (t.x ++ m)) :
    ∃ l c, nextP L p = (⟨t.k, t.x, t.n, l, c⟩, p + sp.length + t.x.length, 0, 0, 0) := by
  obtain ⟨k, hk, hc, he, hn⟩ := right_cut h h3
  have hs : skipL (L.drop p) false = sp.length := by
    rw [hd]
    rcases hsp with rfl | rfl
    · show skipL (t.x ++ m) false = 0
      exact skip_cut _ _ _ hc
    · show skipL (32 :: (t.x ++ m)) false = 1
      rw [skipL_on (b' := false) (by decide) (by decide), skip_cut _ _ _ hc]
  have hdq : L.drop (p + sp.length) = t.x ++ m := by
    rw [← List.drop_drop, hd]
    simp
  have hlen : (L.drop p).length = sp.length + (t.x.length + m.length) := by rw [hd]; simp
  rw [List.length_drop] at hlen
  have hx : t.x.length ≠ 0 := fun h0 => hc.ne (List.eq_nil_of_length_eq_zero h0)
  unfold nextP nextQ
  rw [hs, if_neg (by omega), hdq, longL_cut _ _ _ hc hm]
  simp only
  rw [show (t.x ++ m).take t.x.length = t.x by simp, if_pos he]
  rw [hk, hn]
  exact ⟨_, _, rfl⟩

theorem next_end (L : List UInt8) (p : Nat) (hp : p = L.length) : ∃ l c, nextP L p = (⟨3, [], 0, l, c⟩, p, 0, 0, 0) := by
  have hd : L.drop p = [] := List.drop_eq_nil_of_le (by omega)
  unfold nextP nextQ
  rw [hd, show skipL [] false = 0 from rfl, Nat.add_zero, if_pos hp]
  exact ⟨_, _, rfl⟩

/-- The texts of tokens, a blank ahead of each. -/
def tailJ (r : List TokV) : List UInt8 := r.flatMap fun t => 32 :: t.x
theorem tailJ_ends (r : List TokV) : Ends (tailJ r) := by
  cases r with
  | nil => exact Or.inl rfl
  | cons t r => exact Or.inr ⟨t.x ++ tailJ r, rfl⟩
theorem join_tail (r : List TokV) (a : List UInt8) (h : ∀ t ∈ r, t.k ≠ 3) : r.foldl joinStep (a, true) = (a ++ tailJ r, true) := by
  induction r generalizing a with
  | nil => simp [tailJ]
  | cons t r ih =>
    rw [List.foldl_cons]
    have h3 := h t (List.mem_cons_self ..)
    have : joinStep (a, true) t = (a ++ 32 :: t.x, true) := by unfold joinStep; rw [if_neg h3]; simp
    rw [this, ih _ (fun u hu => h u (List.mem_cons_of_mem _ hu))]
    simp [tailJ]
theorem joinV_cons (t : TokV) (r : List TokV) (h : ∀ u ∈ t :: r, u.k ≠ 3) : joinV (t :: r) = t.x ++ tailJ r := by
  unfold joinV
  rw [List.foldl_cons]
  have h3 := h t (List.mem_cons_self ..)
  have : joinStep ([], false) t = (t.x, true) := by unfold joinStep; rw [if_neg h3]; simp
  rw [this, join_tail _ _ (fun u hu => h u (List.mem_cons_of_mem _ hu))]

/-- Rows that are the same, but for positions, an end behind. -/
def Alike : List TokV → List TokV → Prop
  | [], u => ∃ e, u = [e] ∧ e.k = 3
  | t :: r, u => ∃ t' u', u = t' :: u' ∧ sameV t' t = true ∧ Alike r u'
theorem allF_tail (r : List TokV) (hr : ∀ t ∈ r, rightV t = true ∧ t.k ≠ 3) (L : List UInt8) : ∀ (f p : Nat) (acc : List TokV), p ≤ L.length → L.drop p = tailJ r → r.length < f → ∃ u, allF f L p acc = (acc ++ u, 0, 0, 0) ∧ Alike r u := by
  induction r with
  | nil =>
    intro f p acc hp hd hf
    obtain ⟨f, rfl⟩ : ∃ g, f = g + 1 := ⟨f - 1, by omega⟩
    have hpl : p = L.length := by
      have : (L.drop p).length = 0 := by rw [hd]; rfl
      rw [List.length_drop] at this
      omega
    obtain ⟨l, c, hn⟩ := next_end L p hpl
    unfold allF
    simp only
    rw [hn, if_neg (by simp), if_pos rfl]
    exact ⟨_, rfl, _, rfl, rfl⟩
  | cons t r ih =>
    intro f p acc hp hd hf
    obtain ⟨f, rfl⟩ : ∃ g, f = g + 1 := ⟨f - 1, by simp at hf; omega⟩
    obtain ⟨h1, h3⟩ := hr t (List.mem_cons_self ..)
    have hd' : L.drop p = [32] ++ (t.x ++ tailJ r) := by rw [hd]; simp [tailJ]
    obtain ⟨l, c, hn⟩ := next_cut L p hp [32] (Or.inr rfl) t (tailJ r) (tailJ_ends r) h1 h3 hd'
    have hlen : (L.drop p).length = 1 + (t.x.length + (tailJ r).length) := by rw [hd']; simp; omega
    rw [List.length_drop] at hlen
    have hdn : L.drop (p + 1 + t.x.length) = tailJ r := by
      rw [Nat.add_assoc, ← List.drop_drop, hd', Nat.add_comm 1, ← List.drop_drop]
      simp
    unfold allF
    simp only
    rw [hn]
    simp only [List.length_cons, List.length_nil, Nat.zero_add]
    rw [if_neg (by simp), if_neg h3]
    obtain ⟨u, hu, ha⟩ := ih (fun u hu => hr u (List.mem_cons_of_mem _ hu)) f (p + 1 + t.x.length) (acc ++ [⟨t.k, t.x, t.n, l, c⟩]) (by omega) hdn (by simp at hf; omega)
    rw [hu]
    exact ⟨⟨t.k, t.x, t.n, l, c⟩ :: u, by simp, _, _, rfl, by simp [sameV], ha⟩
theorem tailJ_len (r : List TokV) : r.length ≤ (tailJ r).length := by
  induction r with
  | nil => simp [tailJ]
  | cons t r ih => simp only [tailJ, List.flatMap_cons, List.length_append, List.length_cons] at ih ⊢; omega
theorem all_join (r : List TokV) (hr : ∀ t ∈ r, rightV t = true ∧ t.k ≠ 3) : ∃ u, allV (joinV r) = (u, 0, 0, 0) ∧ Alike r u := by
  cases r with
  | nil =>
    refine ⟨_, rfl, _, rfl, rfl⟩
  | cons t r =>
    rw [joinV_cons t r (fun u hu => (hr u hu).2)]
    obtain ⟨h1, h3⟩ := hr t (List.mem_cons_self ..)
    obtain ⟨l, c, hn⟩ := next_cut (t.x ++ tailJ r) 0 (Nat.zero_le _) [] (Or.inl rfl) t (tailJ r) (tailJ_ends r) h1 h3 rfl
    have hl := tailJ_len r
    unfold allV
    rw [show (t.x ++ tailJ r).length + 2 = ((t.x ++ tailJ r).length + 1) + 1 by omega]
    unfold allF
    simp only
    rw [hn]
    simp only [List.length_nil, Nat.zero_add]
    rw [if_neg (by simp), if_neg h3]
    obtain ⟨u, hu, ha⟩ := allF_tail r (fun u hu => hr u (List.mem_cons_of_mem _ hu)) (t.x ++ tailJ r) ((t.x ++ tailJ r).length + 1) t.x.length ([] ++ [⟨t.k, t.x, t.n, l, c⟩]) (by simp) (by simp) (by simp; omega)
    rw [hu]
    exact ⟨⟨t.k, t.x, t.n, l, c⟩ :: u, by simp, _, _, rfl, by simp [sameV], ha⟩
theorem Alike.len {r u : List TokV} (h : Alike r u) : u.length = r.length + 1 := by
  induction r generalizing u with
  | nil => obtain ⟨e, rfl, _⟩ := h; rfl
  | cons t r ih => obtain ⟨t', u', rfl, _, ha⟩ := h; simp [ih ha]
theorem Alike.last {r u : List TokV} (h : Alike r u) : ∃ e, u[r.length]? = some e ∧ e.k = 3 := by
  induction r generalizing u with
  | nil => obtain ⟨e, rfl, h3⟩ := h; exact ⟨e, rfl, h3⟩
  | cons t r ih => obtain ⟨t', u', rfl, _, ha⟩ := h; simpa using ih ha
theorem Alike.at_ {r u : List TokV} (h : Alike r u) {i : Nat} {t : TokV} (hi : r[i]? = some t) : ∃ t', u[i]? = some t' ∧ sameV t' t = true := by
  induction r generalizing u i with
  | nil => simp at hi
  | cons t0 r ih =>
    obtain ⟨t', u', rfl, hs, ha⟩ := h
    cases i with
    | zero => simp at hi; subst hi; exact ⟨t', rfl, hs⟩
    | succ i => simpa using ih ha (by simpa using hi)
end

section
def dvA (a : Nat) (l : List UInt8) : Nat := l.foldl (fun a c => a * 10 + (c.toNat - 48)) a
def dv (l : List UInt8) : Nat := dvA 0 l
theorem dgt_iff (c : UInt8) : dgt c = true ↔ 48 ≤ c.toNat ∧ c.toNat ≤ 57 := by unfold dgt; simp
theorem dvA_cons (a : Nat) (c : UInt8) (r : List UInt8) : dvA a (c :: r) = dvA (a * 10 + (c.toNat - 48)) r := by unfold dvA; rw [List.foldl_cons]
theorem dvA_eq (l : List UInt8) : ∀ a : Nat, dvA a l = a * 10 ^ l.length + dv l := by
  induction l with
  | nil => intro a; simp [dv, dvA]
  | cons c r ih =>
    intro a
    have e : dv (c :: r) = dvA (0 * 10 + (c.toNat - 48)) r := dvA_cons 0 c r
    rw [dvA_cons, ih, e, ih]
    simp only [List.length_cons, Nat.pow_succ, Nat.zero_mul, Nat.zero_add]
    generalize 10 ^ r.length = T
    generalize c.toNat - 48 = d
    generalize dv r = v
    rw [Nat.add_mul, Nat.mul_assoc, Nat.mul_comm 10 T]
    omega
theorem dv_cons (c : UInt8) (r : List UInt8) : dv (c :: r) = (c.toNat - 48) * 10 ^ r.length + dv r := by
  have e : dv (c :: r) = dvA (0 * 10 + (c.toNat - 48)) r := dvA_cons 0 c r
  rw [e, dvA_eq, Nat.zero_mul, Nat.zero_add]
theorem dvA_ge (l : List UInt8) (a : Nat) : a ≤ dvA a l := by
  rw [dvA_eq]
  have : 1 ≤ 10 ^ l.length := Nat.pow_pos (by omega)
  have h2 : a * 1 ≤ a * 10 ^ l.length := Nat.mul_le_mul_left a this
  omega
theorem dv_lt (l : List UInt8) (h : ∀ c ∈ l, dgt c = true) : dv l < 10 ^ l.length := by
  induction l with
  | nil => simp [dv, dvA]
  | cons c r ih =>
    rw [dv_cons]
    have h1 := ih fun x hx => h x (by simp [hx])
    have h2 := (dgt_iff c).1 (h c (by simp))
    have h3 : (c.toNat - 48) * 10 ^ r.length ≤ 9 * 10 ^ r.length := Nat.mul_le_mul_right _ (by omega)
    rw [List.length_cons, Nat.pow_succ]
    omega
theorem dv_ge (c : UInt8) (r : List UInt8) (h : dgt c = true) (h0 : c ≠ 48) : 10 ^ r.length ≤ dv (c :: r) := by
  rw [dv_cons]
  have h2 := (dgt_iff c).1 h
  have h3 : c.toNat ≠ 48 := fun e => h0 (UInt8.toNat_inj.1 e)
  have h4 : 1 * 10 ^ r.length ≤ (c.toNat - 48) * 10 ^ r.length := Nat.mul_le_mul_right _ (by omega)
  omega
/-- Digits of as many places are compared as their numbers are. -/
theorem dv_less : ∀ (l m : List UInt8), l.length = m.length → (∀ c ∈ l, dgt c = true) → (∀ c ∈ m, dgt c = true) → Go.Op.bytesLess l m = decide (dv l < dv m) ∧ (dv l = dv m → l = m) := by
  intro l
  induction l with
  | nil =>
    intro m hm _ _
    have : m = [] := by simpa using hm.symm
    subst this
    simp [Go.Op.bytesLess]
  | cons a r ih =>
    intro m hm hl hd
    cases m with
    | nil => simp at hm
    | cons b q =>
      have hlen : r.length = q.length := by simpa using hm
      have ha := (dgt_iff a).1 (hl a (by simp))
      have hb := (dgt_iff b).1 (hd b (by simp))
      have hr := dv_lt r fun x hx => hl x (by simp [hx])
      have hq := dv_lt q fun x hx => hd x (by simp [hx])
      obtain ⟨hi, hj⟩ := ih q hlen (fun x hx => hl x (by simp [hx])) (fun x hx => hd x (by simp [hx]))
      unfold Go.Op.bytesLess
      rw [hi, dv_cons, dv_cons, hlen]
      rw [hlen] at hr
      by_cases h1 : a.toNat < b.toNat
      · have e1 : a < b := UInt8.lt_iff_toNat_lt.2 h1
        have h2 : (a.toNat - 48 + 1) * 10 ^ q.length ≤ (b.toNat - 48) * 10 ^ q.length := Nat.mul_le_mul_right _ (by omega)
        rw [Nat.add_mul, Nat.one_mul] at h2
        have h3 : (a.toNat - 48) * 10 ^ q.length + dv r < (b.toNat - 48) * 10 ^ q.length + dv q := by omega
        exact ⟨by simp [e1, h3], fun e => by omega⟩
      · have e1 : ¬ a < b := fun h => h1 (UInt8.lt_iff_toNat_lt.1 h)
        by_cases h2 : a.toNat = b.toNat
        · have e2 : a = b := UInt8.toNat_inj.1 h2
          subst e2
          exact ⟨by simp, fun e => by rw [hj (by omega)]⟩
        · have e2 : (a == b) = false := by
            simp only [beq_eq_false_iff_ne]
            intro h; exact h2 (congrArg UInt8.toNat h)
          have h3 : (b.toNat - 48 + 1) * 10 ^ q.length ≤ (a.toNat - 48) * 10 ^ q.length := Nat.mul_le_mul_right _ (by omega)
          rw [Nat.add_mul, Nat.one_mul] at h3
          have h4 : ¬ (a.toNat - 48) * 10 ^ q.length + dv r < (b.toNat - 48) * 10 ^ q.length + dv q := by omega
          exact ⟨by simp [e1, e2, h4], fun e => by omega⟩

/-- The reference's number is what the digits spell, cut at 2^64. -/
theorem numW_dv (l : List UInt8) (h : ∀ c ∈ l, dgt c = true) : numW l = dv l % LB := by
  have key : ∀ (l : List UInt8), (∀ c ∈ l, dgt c = true) → ∀ a, l.foldl (fun n c => (10 * n + (c - 48).toNat) % LB) (a % LB) = dvA a l % LB := by
    intro l
    induction l with
    | nil => intro _ a; rfl
    | cons c r ih =>
      intro h a
      have h2 := (dgt_iff c).1 (h c (by simp))
      have h3 : (c - 48).toNat = c.toNat - 48 := by
        have := c.toNat_lt
        rw [UInt8.toNat_sub]
        show (2 ^ 8 - 48 + c.toNat) % 2 ^ 8 = _
        omega
      rw [List.foldl_cons, dvA_cons, h3, ← ih (fun x hx => h x (by simp [hx])) (a * 10 + (c.toNat - 48))]
      congr 1
      unfold LB
      omega
  exact key l h 0
/-- What the library reads in digits. -/
theorem parse_dv (l : List UInt8) (h : ∀ c ∈ l, dgt c = true) : ∀ a, a ≤ 18446744073709551615 → Lib.parseUintM 18446744073709551615 a l = if dvA a l ≤ 18446744073709551615 then .ok (dvA a l) else .range := by
  induction l with
  | nil => intro a ha; unfold Lib.parseUintM; rw [if_pos]; rfl; exact ha
  | cons c r ih =>
    intro a ha
    have h2 := (dgt_iff c).1 (h c (by simp))
    have hm := dvA_ge r (a * 10 + (c.toNat - 48))
    unfold Lib.parseUintM
    rw [if_pos h2, dvA_cons]
    by_cases h3 : 1844674407370955162 ≤ a
    · rw [if_pos h3, if_neg (by omega)]
    · rw [if_neg h3]
      by_cases h4 : 18446744073709551615 < a * 10 + (c.toNat - 48)
      · rw [if_pos h4, if_neg (by omega)]
      · rw [if_neg h4]
        exact ih (fun x hx => h x (by simp [hx])) _ (by omega)
theorem parse_digits (l : List UInt8) (h : isIntB l = true) : Lib.parseUintB 64 l = if dv l ≤ 18446744073709551615 then .ok (dv l) else .range := by
  unfold isIntB at h
  simp only [Bool.and_eq_true, Bool.not_eq_true', List.isEmpty_eq_false_iff, List.all_eq_true] at h
  unfold Lib.parseUintB
  rw [if_neg h.1]
  exact parse_dv l h.2 0 (by omega)
theorem topB_dv : dv topB = 9223372036854775808 := by decide
theorem topB_dgt : ∀ c ∈ topB, dgt c = true := by decide
/-- A number that is none: noughts ahead, or more than 2^63. -/
theorem numBad_iff (l : List UInt8) (h : isIntB l = true) : numBad l = true ↔ ((1 < l.length ∧ l[0]? = some 48) ∨ 9223372036854775808 < dv l) := by
  unfold isIntB at h
  simp only [Bool.and_eq_true, Bool.not_eq_true', List.isEmpty_eq_false_iff, List.all_eq_true] at h
  obtain ⟨hne, hd⟩ := h
  have hlt := dv_lt l hd
  unfold numBad
  simp only [Bool.or_eq_true, Bool.and_eq_true, decide_eq_true_eq, beq_iff_eq]
  by_cases h0 : 1 < l.length ∧ l[0]? = some 48
  · simp [h0]
  · have hge : 1 < l.length → 10 ^ (l.length - 1) ≤ dv l := by
      intro h1
      cases l with
      | nil => exact absurd rfl hne
      | cons c r =>
        rw [List.length_cons, Nat.add_sub_cancel]
        exact dv_ge c r (hd c (by simp)) (fun e => h0 ⟨h1, by simp [e]⟩)
    rcases Nat.lt_trichotomy l.length 19 with h1 | h1 | h1
    · have h2 : 10 ^ l.length ≤ 10 ^ 18 := Nat.pow_le_pow_right (by omega) (by omega)
      have h3 : (10 : Nat) ^ 18 = 1000000000000000000 := by decide
      constructor
      · rintro ((h | h) | h)
        · exact absurd h h0
        · omega
        · omega
      · rintro (h | h)
        · exact absurd h h0
        · omega
    · have hb := dv_less l topB (by rw [h1]; rfl) hd topB_dgt
      rw [topB_dv] at hb
      unfold gtB
      rw [hb.1]
      constructor
      · rintro ((h | h) | h)
        · exact absurd h h0
        · omega
        · right
          have h2 := h.2
          simp only [Bool.not_eq_true', Bool.or_eq_false_iff, decide_eq_false_iff_not, beq_eq_false_iff_ne] at h2
          have h3 : dv l ≠ 9223372036854775808 := fun e => h2.2 (hb.2 e)
          omega
      · rintro (h | h)
        · exact absurd h h0
        · right
          refine ⟨h1, ?_⟩
          simp only [Bool.not_eq_true', Bool.or_eq_false_iff, decide_eq_false_iff_not, beq_eq_false_iff_ne]
          refine ⟨by omega, fun e => ?_⟩
          have h4 : dv l = 9223372036854775808 := by rw [e]; exact topB_dv
          omega
    · have h2 : 10 ^ 19 ≤ 10 ^ (l.length - 1) := Nat.pow_le_pow_right (by omega) (by omega)
      have h3 : (10 : Nat) ^ 19 = 10000000000000000000 := by decide
      have h4 := hge (by omega)
      constructor
      · intro _; right; omega
      · intro _; left; right; exact h1
/-- The three ways of an int's digits. -/
theorem digits_ways (l : List UInt8) (h : isIntB l = true) :
    (numBad l = false ∧ Lib.parseUintB 64 l = .ok (dv l) ∧ dv l ≤ 9223372036854775808 ∧ (l.length ≤ 1 ∨ l[0]? ≠ some 48) ∧ numV l = (IntKind.i64.wrap (dv l), true)) ∨
    (numBad l = true ∧ Lib.parseUintB 64 l = .range ∧ numV l = (0, false)) ∨
    (numBad l = true ∧ Lib.parseUintB 64 l = .ok (dv l) ∧ 9223372036854775808 < dv l ∧ dv l ≤ 18446744073709551615 ∧ numV l = (0, false)) ∨
    (numBad l = true ∧ Lib.parseUintB 64 l = .ok (dv l) ∧ dv l ≤ 9223372036854775808 ∧ 1 < l.length ∧ l[0]? = some 48 ∧ numV l = (0, false)) := by
  have hp := parse_digits l h
  have hb := numBad_iff l h
  have hd : ∀ c ∈ l, dgt c = true := by
    unfold isIntB at h
    simp only [Bool.and_eq_true, Bool.not_eq_true', List.isEmpty_eq_false_iff, List.all_eq_true] at h
    exact h.2
  by_cases hbad : numBad l = true
  · right
    have hv : numV l = (0, false) := by unfold numV; rw [if_pos hbad]
    by_cases h1 : dv l ≤ 18446744073709551615
    · rw [if_pos h1] at hp
      right
      by_cases h2 : 9223372036854775808 < dv l
      · exact .inl ⟨hbad, hp, h2, h1, hv⟩
      · right
        rcases hb.1 hbad with h3 | h3
        · exact ⟨hbad, hp, by omega, h3.1, h3.2, hv⟩
        · omega
    · rw [if_neg h1] at hp
      exact .inl ⟨hbad, hp, hv⟩
  · left
    have h1 : ¬ ((1 < l.length ∧ l[0]? = some 48) ∨ 9223372036854775808 < dv l) := fun e => hbad (hb.2 e)
    have h2 : dv l ≤ 9223372036854775808 := by omega
    rw [if_pos (by omega)] at hp
    refine ⟨Bool.eq_false_iff.2 hbad, hp, h2, ?_, ?_⟩
    · by_cases h3 : l.length ≤ 1
      · exact .inl h3
      · exact .inr fun e => h1 (.inl ⟨by omega, e⟩)
    · unfold numV
      rw [if_neg hbad, numW_dv l hd, Nat.mod_eq_of_lt (by unfold LB; omega)]
end
end Go.Proofs.YtejifkeeihkcjaaDoor
