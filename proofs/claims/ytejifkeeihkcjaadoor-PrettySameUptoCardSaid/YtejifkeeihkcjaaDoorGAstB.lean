/- Words, keywords, names, numbers, operators: the reference of layer 6. Names, numbers, operators, picking: the reference of layer 6 and the kit. Sizes and depths of trees: the reference of layer 6. Right expressions: the reference of layer 6. Right statements: the reference of layer 6. Declarations and programs, their size and depth: the reference of layer 6. Right declarations and programs: the reference of layer 6. Expressions that are the same: the reference of layer 6. Statements that are the same: the reference of layer 6. Texts and programs that are the same: the reference of layer 6. Programs that are the same: the reference of layer 6. -/
import Derived.Test.YtejifkeeihkcjaaDoorGMath
namespace Go.Proofs.YtejifkeeihkcjaaDoor
section
open Go.RowKit

theorem RowS.new (W : World) (r : List (List UInt8)) (T : TypeId) : RowS (W.alloc (.cells (strs r).toArray T)) (some ⟨W.heap.size, 0, none⟩) r.length r :=
  ⟨by simp [strs], fun _ => ⟨_, rfl, by simp, fun j u hu => by
    have : (⟨W.heap.size, 0, none⟩ : Addr).add j = ⟨W.heap.size, j, none⟩ := by by_cases e : j = 0 <;> simp [Addr.add, e]
    rw [this, cell_of_row _ _ j (strs r).toArray T (0, 0) (heap_alloc_new W _)]
    simpa using hu⟩⟩
theorem eq_texts6 {a b : List UInt8} (h : a = b) : ((⟨a.toArray⟩ : ByteArray).toList == (⟨b.toArray⟩ : ByteArray).toList) = true := by simp [h]
theorem ne_texts6 {a b : List UInt8} (h : a ≠ b) : ((⟨a.toArray⟩ : ByteArray).toList == (⟨b.toArray⟩ : ByteArray).toList) = false := by
  simp only [beq_eq_false_iff_ne, ne_eq, ByteArray.toList_eq]
  exact h
theorem byte6 (s : ByteArray) (i : Nat) (hi : i < s.size) : ∃ c : UInt8, s.data.toList[i]? = some c ∧ ∀ w, (Go.Instr.index 9 (.string s) (.int .i64 (i : Int))).run Tryd.prog w = .ok (.int .u8 ((c.toNat : Nat) : Int)) w := by
  refine ⟨s[i]'hi, ?_, fun w => ?_⟩
  · rw [List.getElem?_eq_getElem (by rw [size_len_]; exact hi)]; rfl
  · rw [run_index_string w 9 s .i64 i Tryd.underlying9, dif_pos ⟨by omega, by omega⟩]
    simp

/-- A word. -/
def word6 (l : List UInt8) : Bool := isWordB l && decide (l.length ≤ 32)

/-- The keywords; the operators' texts and levels. -/
def kws6 : List (List UInt8) := [[97, 114, 114, 97, 121], [99, 97, 108, 108], [101, 108, 115, 101], [105, 102], [105, 110], [109, 97, 105, 110], [111, 117, 116, 112, 117, 116], [112, 114, 111, 99], [112, 117, 98, 108, 105, 99], [115, 101, 99, 114, 101, 116], [115, 107, 105, 112], [118, 97, 114], [119, 104, 105, 108, 101]]
def ops6 : List (List UInt8) := [[124, 124], [38, 38], [61, 61], [33, 61], [60], [60, 61], [62], [62, 61], [124], [94], [38], [60, 60], [62, 62], [43], [45], [42], [47], [37], [45], [33], [126]]
def lvl6 : List Int := [1, 2, 3, 3, 4, 4, 4, 4, 5, 5, 6, 7, 7, 8, 8, 9, 9, 9, 10, 10, 10]
end

section
open Go.RowKit

/-- A name; a number. -/
def name6 (l : List UInt8) : Bool := word6 l && !kws6.contains l
def num6 (n : Int) : Bool := decide (0 ≤ n ∨ n = -9223372036854775808)
/-- An operator's text, level, operands; the operator of a text. -/
def txt6 (o : Int) : List UInt8 := if 0 ≤ o ∧ o ≤ 20 then ops6.getD o.toNat [] else []
def lev6 (o : Int) : Int := if 0 ≤ o ∧ o ≤ 20 then lvl6.getD o.toNat 0 else 0
def one6 (o : Int) : Bool := decide (18 ≤ o ∧ o ≤ 20)
def op6 (s : List UInt8) (b : Bool) : Int × Bool :=
  match (List.range 21).find? (fun i : Nat => decide (txt6 i = s ∧ one6 i = b)) with
  | some i => ((i : Nat), true)
  | none => (0, false)

/-- A table of numbers, in memory. -/
theorem tabZ_new (W : World) (l : List Int) (T : TypeId) {i : Nat} {z : Int} (h : l[i]? = some z) : (W.alloc (.cells (l.map fun x => Value.int .i64 x).toArray T)).cell? ⟨W.heap.size, i, none⟩ = some (.int .i64 z) := by
  rw [cell_of_row _ _ i (l.map fun x => Value.int .i64 x).toArray T (0, 0) (heap_alloc_new W _)]
  simp [h]

/-- What Pick answers. -/
def pick6 (o : Int) (n : Int) : Int := ((o.tmod n + n)).tmod n
theorem pick6_lt (o : Int) : 0 ≤ pick6 o 21 ∧ pick6 o 21 < 21 := by
  unfold pick6
  have := Int.tmod_lt_of_pos o (show (0 : Int) < 21 by decide)
  have : -21 < o.tmod 21 := by have := Int.tmod_lt_of_pos (-o) (show (0 : Int) < 21 by decide); rw [Int.neg_tmod] at this; omega
  exact ⟨Int.tmod_nonneg _ (by omega), Int.tmod_lt_of_pos _ (by decide)⟩
end

section
open Go.RowKit

mutual
/-- How deep one is; a row. -/
def xdp1 : XV → Nat
  | .mk _ _ _ _ gs _ _ => 1 + xdp gs
def xdp : List XV → Nat
  | [] => 0
  | e :: r => max (xdp1 e) (xdp r)
end
mutual
def sdp1 : SV → Nat
  | .mk _ _ es ts us _ _ => 1 + max (max (xdp es) (sdp ts)) (sdp us)
def sdp : List SV → Nat
  | [] => 0
  | e :: r => max (sdp1 e) (sdp r)
end
theorem xdp1_eq (e : XV) : xdp1 e = 1 + xdp e.gs := by cases e; simp [xdp1, XV.gs]
theorem sdp1_eq (s : SV) : sdp1 s = 1 + max (max (xdp s.es) (sdp s.ts)) (sdp s.us) := by cases s; simp [sdp1, SV.es, SV.ts, SV.us]
theorem xdp_snoc (r : List XV) (e : XV) : xdp (r ++ [e]) = max (xdp r) (xdp1 e) := by
  induction r with
  | nil => simp [xdp]
  | cons a r ih => simp only [List.cons_append, xdp, ih]; omega
theorem sdp_snoc (r : List SV) (e : SV) : sdp (r ++ [e]) = max (sdp r) (sdp1 e) := by
  induction r with
  | nil => simp [sdp]
  | cons a r ih => simp only [List.cons_append, sdp, ih]; omega
theorem xdp_take {es : List XV} {i : Nat} {e : XV} (h : es[i]? = some e) : xdp (es.take (i + 1)) = max (xdp (es.take i)) (1 + xdp e.gs) := by
  rw [List.take_add_one, h, ← xdp1_eq]
  exact xdp_snoc _ _
theorem sdp_take {es : List SV} {i : Nat} {e : SV} (h : es[i]? = some e) : sdp (es.take (i + 1)) = max (sdp (es.take i)) (1 + max (max (xdp e.es) (sdp e.ts)) (sdp e.us)) := by
  rw [List.take_add_one, h, ← sdp1_eq]
  exact sdp_snoc _ _
mutual
theorem xdp1_le : ∀ e : XV, xdp1 e ≤ xsz1 e
  | .mk k n x o gs l c => by
    have := xdp_le gs
    simp only [xdp1, xsz1]; omega
theorem xdp_le : ∀ es : List XV, xdp es ≤ xsz es
  | [] => by simp [xdp]
  | e :: r => by
    have := xdp1_le e
    have := xdp_le r
    simp only [xdp, xsz]; omega
end
mutual
theorem sdp1_le : ∀ e : SV, sdp1 e ≤ ssz1 e
  | .mk k x es ts us l c => by
    have := xdp_le es
    have := sdp_le ts
    have := sdp_le us
    simp only [sdp1, ssz1]; omega
theorem sdp_le : ∀ es : List SV, sdp es ≤ ssz es
  | [] => by simp [sdp]
  | e :: r => by
    have := sdp1_le e
    have := sdp_le r
    simp only [sdp, ssz]; omega
end

/-- The cell of an expression where its arguments stand, found by a row's address. -/
theorem XR.args {W : World} {A : Option Addr} {es : List XV} (h : XR W A es) {i : Nat} (hi : i < es.length) : ∃ ad e A' c', A = some ad ∧ es[i]? = some e ∧ W.cell? ⟨(ad.add (i * 7)).block, (ad.add (i * 7)).off + 4, none⟩ = some (.slice A' e.gs.length c') ∧ XR W A' e.gs := by
  obtain ⟨ad, e, hA, he, A', c', _, _, _, _, h4, _, _, h7⟩ := h.el hi
  exact ⟨ad, e, A', c', hA, he, h4, h7⟩

/-- A statement of a row whose three rows are read, while nothing old is turned. -/
structure KB (w W : World) (p : Addr) (A1 : Option Addr) (c1 : Nat) (A2 : Option Addr) (c2 : Nat) (A3 : Option Addr) (c3 : Nat) (es : List XV) (ts us : List SV) : Prop where
  b : Below w.heap.size w W
  c : W.cell? ⟨p.block, p.off + 2, none⟩ = some (.slice A1 es.length c1) ∧ W.cell? ⟨p.block, p.off + 3, none⟩ = some (.slice A2 ts.length c2) ∧ W.cell? ⟨p.block, p.off + 4, none⟩ = some (.slice A3 us.length c3)
  x : XR W A1 es
  t : SR W A2 ts
  u : SR W A3 us
theorem KB.step {w W W' : World} {p : Addr} {A1 : Option Addr} {c1 : Nat} {A2 : Option Addr} {c2 : Nat} {A3 : Option Addr} {c3 : Nat} {es : List XV} {ts us : List SV} (h : KB w W p A1 c1 A2 c2 A3 c3 es ts us) (hb : Below W.heap.size W W') : KB w W' p A1 c1 A2 c2 A3 c3 es ts us :=
  ⟨bth5 h.b hb, ⟨cst5 hb h.c.1, cst5 hb h.c.2.1, cst5 hb h.c.2.2⟩, h.x.step hb, h.t.step hb, h.u.step hb⟩
theorem SR.kb {W : World} {A : Option Addr} {l : List SV} (h : SR W A l) {i : Nat} (hi : i < l.length) : ∃ ad e A1 c1 A2 c2 A3 c3, A = some ad ∧ l[i]? = some e ∧ KB W W (ad.add (i * 7)) A1 c1 A2 c2 A3 c3 e.es e.ts e.us := by
  obtain ⟨ad, e, hA, he, A1, c1, A2, c2, A3, c3, _, _, h2, h3, h4, _, _, h5, h6, h7⟩ := h.el hi
  exact ⟨ad, e, A1, c1, A2, c2, A3, c3, hA, he, Below.refl _ _, ⟨h2, h3, h4⟩, h5, h6, h7⟩
end

section
open Go.RowKit

mutual
/-- The bulk of one: itself, its name, its arguments. -/
def xbk1 : XV → Nat
  | .mk _ _ x _ gs _ _ => 1 + x.length + xbk gs
def xbk : List XV → Nat
  | [] => 0
  | e :: r => xbk1 e + xbk r
end
theorem xbk1_eq (e : XV) : xbk1 e = 1 + e.x.length + xbk e.gs := by cases e; simp [xbk1, XV.x, XV.gs]
theorem xbk_get {es : List XV} {i : Nat} {e : XV} (h : es[i]? = some e) : xbk1 e ≤ xbk es := by
  induction es generalizing i with
  | nil => simp at h
  | cons a r ih =>
    cases i with
    | zero => simp at h; subst h; simp [xbk]
    | succ i => have := ih (by simpa using h); simp [xbk]; omega
mutual
theorem xsz1_bk : ∀ e : XV, xsz1 e ≤ xbk1 e
  | .mk k n x o gs l c => by
    have := xsz_bk gs
    simp only [xsz1, xbk1]; omega
theorem xsz_bk : ∀ es : List XV, xsz es ≤ xbk es
  | [] => by simp [xsz]
  | e :: r => by
    have := xsz1_bk e
    have := xsz_bk r
    simp only [xsz, xbk]; omega
end
theorem xbk_len (es : List XV) : es.length ≤ xbk es := Nat.le_trans (xsz_len es) (xsz_bk es)

/-- Is one right, its arguments aside? -/
def okX (k n : Int) (x : List UInt8) (o : Int) (m : Nat) : Bool :=
  decide ((k = 0 ∧ x = [] ∧ o = 0 ∧ num6 n = true ∧ m = 0) ∨ (k = 1 ∧ name6 x = true ∧ n = 0 ∧ o = 0 ∧ m = 0) ∨ (k = 2 ∧ name6 x = true ∧ n = 0 ∧ o = 0 ∧ m = 1) ∨ (k = 3 ∧ x = [] ∧ n = 0 ∧ m = 1 ∧ one6 o = true) ∨ (k = 4 ∧ x = [] ∧ n = 0 ∧ m = 2 ∧ 0 ≤ o ∧ o ≤ 17))
mutual
def rgx1 : XV → Bool
  | .mk k n x o gs _ _ => rgx gs && okX k n x o gs.length
def rgx : List XV → Bool
  | [] => true
  | e :: r => rgx1 e && rgx r
end
theorem rgx1_eq (e : XV) : rgx1 e = (rgx e.gs && okX e.k e.n e.x e.o e.gs.length) := by cases e; simp [rgx1, XV.gs, XV.k, XV.n, XV.x, XV.o]
theorem rgx_all (es : List XV) : rgx es = es.all rgx1 := by
  induction es with
  | nil => simp [rgx]
  | cons a r ih => simp [rgx, ih]
theorem rgx_no {es : List XV} {i : Nat} {e : XV} (h : es[i]? = some e) (hr : rgx1 e = false) : rgx es = false := by
  rw [rgx_all, Bool.eq_false_iff]
  intro ha
  rw [List.all_eq_true] at ha
  have := ha e (List.mem_iff_getElem?.2 ⟨i, h⟩)
  rw [hr] at this
  cases this
theorem rgx_yes {es : List XV} (h : ∀ j e, j < es.length → es[j]? = some e → rgx1 e = true) : rgx es = true := by
  rw [rgx_all, List.all_eq_true]
  intro e he
  obtain ⟨j, hj⟩ := List.mem_iff_getElem?.1 he
  exact h j e (List.getElem?_eq_some_iff.1 hj).1 hj

theorem Box.seven {W : World} {g : Nat} {v0 v1 v2 v3 v4 v5 v6 : Value} (h : Box W g [v0, v1, v2, v3, v4, v5, v6]) : W.cell? ⟨g, 0, none⟩ = some v0 ∧ W.cell? ⟨g, 1, none⟩ = some v1 ∧ W.cell? ⟨g, 2, none⟩ = some v2 ∧ W.cell? ⟨g, 3, none⟩ = some v3 ∧ W.cell? ⟨g, 4, none⟩ = some v4 ∧ W.cell? ⟨g, 5, none⟩ = some v5 ∧ W.cell? ⟨g, 6, none⟩ = some v6 :=
  ⟨(h 0 _ rfl).1, (h 1 _ rfl).1, (h 2 _ rfl).1, (h 3 _ rfl).1, (h 4 _ rfl).1, (h 5 _ rfl).1, (h 6 _ rfl).1⟩
/-- An expression handed over. -/
def xval (e : XV) (A : Option Addr) (cap : Nat) : Value := .agg #[.int .i64 e.k, .int .i64 e.n, .string ⟨e.x.toArray⟩, .int .i64 e.o, .slice A e.gs.length cap, .int .i64 e.l, .int .i64 e.c]
def xcells (e : XV) (A : Option Addr) (cap : Nat) : List Value := [.int .i64 e.k, .int .i64 e.n, .string ⟨e.x.toArray⟩, .int .i64 e.o, .slice A e.gs.length cap, .int .i64 e.l, .int .i64 e.c]
theorem empty_t {x : List UInt8} (h : x = []) : ((⟨x.toArray⟩ : ByteArray).toList == []) = true := by
  simp only [beq_iff_eq, ByteArray.toList_eq]
  exact h
theorem empty_f {x : List UInt8} (h : ¬ x = []) : ((⟨x.toArray⟩ : ByteArray).toList == []) = false := by
  simp only [beq_eq_false_iff_ne, ne_eq, ByteArray.toList_eq]
  exact h
end

section
open Go.RowKit

mutual
def sbk1 : SV → Nat
  | .mk _ x es ts us _ _ => 1 + x.length + xbk es + sbk ts + sbk us
def sbk : List SV → Nat
  | [] => 0
  | e :: r => sbk1 e + sbk r
end
theorem sbk1_eq (e : SV) : sbk1 e = 1 + e.x.length + xbk e.es + sbk e.ts + sbk e.us := by cases e; simp [sbk1, SV.x, SV.es, SV.ts, SV.us]
theorem sbk_get {es : List SV} {i : Nat} {e : SV} (h : es[i]? = some e) : sbk1 e ≤ sbk es := by
  induction es generalizing i with
  | nil => simp at h
  | cons a r ih =>
    cases i with
    | zero => simp at h; subst h; simp [sbk]
    | succ i => have := ih (by simpa using h); simp [sbk]; omega
mutual
theorem ssz1_bk : ∀ e : SV, ssz1 e ≤ sbk1 e
  | .mk k x es ts us l c => by
    have := xsz_bk es
    have := ssz_bk ts
    have := ssz_bk us
    simp only [ssz1, sbk1]; omega
theorem ssz_bk : ∀ es : List SV, ssz es ≤ sbk es
  | [] => by simp [ssz]
  | e :: r => by
    have := ssz1_bk e
    have := ssz_bk r
    simp only [ssz, sbk]; omega
end
theorem sbk_len (es : List SV) : es.length ≤ sbk es := Nat.le_trans (ssz_len es) (ssz_bk es)

/-- Is one right, its parts aside? -/
def okS (k : Int) (x : List UInt8) (n1 n2 n3 : Nat) : Bool :=
  decide ((k = 0 ∧ name6 x = true ∧ n1 = 1 ∧ n2 = 0 ∧ n3 = 0) ∨ (k = 1 ∧ name6 x = true ∧ n1 = 2 ∧ n2 = 0 ∧ n3 = 0) ∨ (k = 2 ∧ x = [] ∧ n1 = 1) ∨ (k = 3 ∧ x = [] ∧ n1 = 1 ∧ n3 = 0) ∨ (k = 4 ∧ x = [] ∧ n1 = 1 ∧ n2 = 0 ∧ n3 = 0) ∨ (k = 5 ∧ name6 x = true ∧ n2 = 0 ∧ n3 = 0) ∨ (k = 6 ∧ x = [] ∧ n1 = 0 ∧ n2 = 0 ∧ n3 = 0))
mutual
def rgs1 : SV → Bool
  | .mk k x es ts us _ _ => rgx es && (rgs ts && (rgs us && okS k x es.length ts.length us.length))
def rgs : List SV → Bool
  | [] => true
  | e :: r => rgs1 e && rgs r
end
theorem rgs1_eq (e : SV) : rgs1 e = (rgx e.es && (rgs e.ts && (rgs e.us && okS e.k e.x e.es.length e.ts.length e.us.length))) := by cases e; simp [rgs1, SV.k, SV.x, SV.es, SV.ts, SV.us]
theorem rgs_all (es : List SV) : rgs es = es.all rgs1 := by
  induction es with
  | nil => simp [rgs]
  | cons a r ih => simp [rgs, ih]
theorem rgs_no {es : List SV} {i : Nat} {e : SV} (h : es[i]? = some e) (hr : rgs1 e = false) : rgs es = false := by
  rw [rgs_all, Bool.eq_false_iff]
  intro ha
  rw [List.all_eq_true] at ha
  have := ha e (List.mem_iff_getElem?.2 ⟨i, h⟩)
  rw [hr] at this
  cases this
theorem rgs_yes {es : List SV} (h : ∀ j e, j < es.length → es[j]? = some e → rgs1 e = true) : rgs es = true := by
  rw [rgs_all, List.all_eq_true]
  intro e he
  obtain ⟨j, hj⟩ := List.mem_iff_getElem?.1 he
  exact h j e (List.getElem?_eq_some_iff.1 hj).1 hj

/-- A statement handed over. -/
def sval (e : SV) (A1 : Option Addr) (c1 : Nat) (A2 : Option Addr) (c2 : Nat) (A3 : Option Addr) (c3 : Nat) : Value := .agg #[.int .i64 e.k, .string ⟨e.x.toArray⟩, .slice A1 e.es.length c1, .slice A2 e.ts.length c2, .slice A3 e.us.length c3, .int .i64 e.l, .int .i64 e.c]
end

section
open Go.RowKit

/-- A declaration: nine cells. -/
structure DV where
  k : Int
  x : List UInt8
  lo : Int
  hi : Int
  sz : Int
  ps : List (List UInt8)
  body : List SV
  l : Int
  c : Int
def DE (W : World) (p : Addr) (d : DV) : Prop := ∃ (A1 : Option Addr) (c1 : Nat) (A2 : Option Addr) (c2 : Nat), W.cell? p = some (.int .i64 d.k) ∧ W.cell? ⟨p.block, p.off + 1, none⟩ = some (.string ⟨d.x.toArray⟩) ∧ W.cell? ⟨p.block, p.off + 2, none⟩ = some (.int .i64 d.lo) ∧ W.cell? ⟨p.block, p.off + 3, none⟩ = some (.int .i64 d.hi) ∧ W.cell? ⟨p.block, p.off + 4, none⟩ = some (.int .i64 d.sz) ∧ W.cell? ⟨p.block, p.off + 5, none⟩ = some (.slice A1 d.ps.length c1) ∧ W.cell? ⟨p.block, p.off + 6, none⟩ = some (.slice A2 d.body.length c2) ∧ W.cell? ⟨p.block, p.off + 7, none⟩ = some (.int .i64 d.l) ∧ W.cell? ⟨p.block, p.off + 8, none⟩ = some (.int .i64 d.c) ∧ RowS W A1 d.ps.length d.ps ∧ SR W A2 d.body
def DR (W : World) (A : Option Addr) (ds : List DV) : Prop := ds ≠ [] → ∃ ad, A = some ad ∧ ∀ (i : Nat) (d : DV), ds[i]? = some d → DE W (ad.add (i * 9)) d
theorem DE.step {W W' : World} {p : Addr} {d : DV} (h : DE W p d) (hb : Below W.heap.size W W') : DE W' p d := by
  obtain ⟨A1, c1, A2, c2, h0, h1, h2, h3, h4, h5, h6, h7, h8, h9, h10⟩ := h
  exact ⟨A1, c1, A2, c2, cst5 hb h0, cst5 hb h1, cst5 hb h2, cst5 hb h3, cst5 hb h4, cst5 hb h5, cst5 hb h6, cst5 hb h7, cst5 hb h8, h9.below hb, h10.step hb⟩
theorem DR.step {W W' : World} {A : Option Addr} {ds : List DV} (h : DR W A ds) (hb : Below W.heap.size W W') : DR W' A ds := fun h0 => by
  obtain ⟨ad, h1, h2⟩ := h h0
  exact ⟨ad, h1, fun i d hd => (h2 i d hd).step hb⟩
theorem DR.el {W : World} {A : Option Addr} {ds : List DV} (h : DR W A ds) {i : Nat} (hi : i < ds.length) : ∃ ad d, A = some ad ∧ ds[i]? = some d ∧ DE W (ad.add (i * 9)) d := by
  obtain ⟨ad, h1, h2⟩ := h (by rintro rfl; simp at hi)
  exact ⟨ad, ds[i], h1, List.getElem?_eq_getElem hi, h2 i _ (List.getElem?_eq_getElem hi)⟩

/-- How many trees declarations have; how deep they are. -/
def dsz : List DV → Nat
  | [] => 0
  | d :: r => 1 + ssz d.body + dsz r
def ddp : List DV → Nat
  | [] => 0
  | d :: r => max (1 + sdp d.body) (ddp r)
theorem dsz_snoc (r : List DV) (d : DV) : dsz (r ++ [d]) = dsz r + (1 + ssz d.body) := by
  induction r with
  | nil => simp [dsz]
  | cons a r ih => simp only [List.cons_append, dsz, ih]; omega
theorem ddp_snoc (r : List DV) (d : DV) : ddp (r ++ [d]) = max (ddp r) (1 + sdp d.body) := by
  induction r with
  | nil => simp [ddp]
  | cons a r ih => simp only [List.cons_append, ddp, ih]; omega
theorem dsz_take {ds : List DV} {i : Nat} {d : DV} (h : ds[i]? = some d) : dsz (ds.take (i + 1)) = dsz (ds.take i) + (1 + ssz d.body) := by
  rw [List.take_add_one, h]; exact dsz_snoc _ _
theorem ddp_take {ds : List DV} {i : Nat} {d : DV} (h : ds[i]? = some d) : ddp (ds.take (i + 1)) = max (ddp (ds.take i)) (1 + sdp d.body) := by
  rw [List.take_add_one, h]; exact ddp_snoc _ _
theorem dsz_take_le (ds : List DV) (i : Nat) : dsz (ds.take i) ≤ dsz ds := by
  induction ds generalizing i with
  | nil => simp
  | cons a r ih =>
    cases i with
    | zero => simp [dsz]
    | succ i => have := ih i; simp [dsz]; omega
theorem dsz_len (ds : List DV) : ds.length ≤ dsz ds := by
  induction ds with
  | nil => simp
  | cons a r ih => simp [dsz]; omega
theorem ddp_le (ds : List DV) : ddp ds ≤ dsz ds := by
  induction ds with
  | nil => simp [ddp]
  | cons a r ih => have := sdp_le a.body; simp only [ddp, dsz]; omega
/-- A program handed over. -/
def pval (A : Option Addr) (n ca : Nat) (B : Option Addr) (m cb : Nat) : Value := .agg #[.slice A n ca, .slice B m cb]
end

section
open Go.RowKit

/-- The bulk of some texts; of a declaration; of declarations. -/
def pbk : List (List UInt8) → Nat
  | [] => 0
  | t :: r => 1 + t.length + pbk r
theorem pbk_get {r : List (List UInt8)} {i : Nat} {t : List UInt8} (h : r[i]? = some t) : t.length ≤ pbk r := by
  induction r generalizing i with
  | nil => simp at h
  | cons a r ih =>
    cases i with
    | zero => simp at h; subst h; simp [pbk]; omega
    | succ i => have := ih (by simpa using h); simp [pbk]; omega
theorem pbk_len (r : List (List UInt8)) : r.length ≤ pbk r := by
  induction r with
  | nil => simp
  | cons a r ih => simp [pbk]; omega
def dbk1 (d : DV) : Nat := 1 + d.x.length + pbk d.ps + sbk d.body
def dbk : List DV → Nat
  | [] => 0
  | d :: r => dbk1 d + dbk r
theorem dbk_get {ds : List DV} {i : Nat} {d : DV} (h : ds[i]? = some d) : dbk1 d ≤ dbk ds := by
  induction ds generalizing i with
  | nil => simp at h
  | cons a r ih =>
    cases i with
    | zero => simp at h; subst h; simp [dbk]
    | succ i => have := ih (by simpa using h); simp [dbk]; omega
theorem dsz_bk (ds : List DV) : dsz ds ≤ dbk ds := by
  induction ds with
  | nil => simp [dsz]
  | cons a r ih => have := ssz_bk a.body; simp only [dsz, dbk, dbk1]; omega

theorem num6_zero : num6 0 = true := by simp [num6]
/-- Is a declaration right, its parameters and its body aside? -/
def okD (k : Int) (x : List UInt8) (lo hi sz : Int) (n1 n2 : Nat) : Bool :=
  decide (name6 x = true ∧ num6 sz = true ∧ ((k = 0 ∧ sz = 0 ∧ n1 = 0 ∧ n2 = 0) ∨ (k = 1 ∧ sz = 0 ∧ n1 = 0 ∧ n2 = 0) ∨ (k = 2 ∧ lo = 0 ∧ hi = 0 ∧ sz = 0 ∧ n1 = 0 ∧ n2 = 0) ∨ (k = 3 ∧ lo = 0 ∧ hi = 0 ∧ n1 = 0 ∧ n2 = 0) ∨ (k = 4 ∧ lo = 0 ∧ hi = 0 ∧ sz = 0)))
def rgd1 (d : DV) : Bool := d.ps.all name6 && (rgs d.body && okD d.k d.x d.lo d.hi d.sz d.ps.length d.body.length)
def rgd (ds : List DV) : Bool := ds.all rgd1
theorem all_no {α : Type} {p : α → Bool} {l : List α} {i : Nat} {a : α} (h : l[i]? = some a) (hp : p a = false) : l.all p = false := by
  rw [Bool.eq_false_iff]
  intro ha
  rw [List.all_eq_true] at ha
  have := ha a (List.mem_iff_getElem?.2 ⟨i, h⟩)
  rw [hp] at this
  cases this
theorem all_yes {α : Type} {p : α → Bool} {l : List α} (h : ∀ j a, j < l.length → l[j]? = some a → p a = true) : l.all p = true := by
  rw [List.all_eq_true]
  intro e he
  obtain ⟨j, hj⟩ := List.mem_iff_getElem?.1 he
  exact h j e (List.getElem?_eq_some_iff.1 hj).1 hj
theorem Box.nine {W : World} {g : Nat} {v0 v1 v2 v3 v4 v5 v6 v7 v8 : Value} (h : Box W g [v0, v1, v2, v3, v4, v5, v6, v7, v8]) : W.cell? ⟨g, 0, none⟩ = some v0 ∧ W.cell? ⟨g, 1, none⟩ = some v1 ∧ W.cell? ⟨g, 2, none⟩ = some v2 ∧ W.cell? ⟨g, 3, none⟩ = some v3 ∧ W.cell? ⟨g, 4, none⟩ = some v4 ∧ W.cell? ⟨g, 5, none⟩ = some v5 ∧ W.cell? ⟨g, 6, none⟩ = some v6 ∧ W.cell? ⟨g, 7, none⟩ = some v7 ∧ W.cell? ⟨g, 8, none⟩ = some v8 :=
  ⟨(h 0 _ rfl).1, (h 1 _ rfl).1, (h 2 _ rfl).1, (h 3 _ rfl).1, (h 4 _ rfl).1, (h 5 _ rfl).1, (h 6 _ rfl).1, (h 7 _ rfl).1, (h 8 _ rfl).1⟩
/-- A declaration handed over. -/
def dval (d : DV) (A1 : Option Addr) (c1 : Nat) (A2 : Option Addr) (c2 : Nat) : Value := .agg #[.int .i64 d.k, .string ⟨d.x.toArray⟩, .int .i64 d.lo, .int .i64 d.hi, .int .i64 d.sz, .slice A1 d.ps.length c1, .slice A2 d.body.length c2, .int .i64 d.l, .int .i64 d.c]
end

section
open Go.RowKit

mutual
/-- Are two the same, positions aside? -/
def smx1 : XV → XV → Bool
  | .mk k n x o gs _ _, .mk k' n' x' o' gs' _ _ => k == k' && (n == n' && (x == x' && (o == o' && smx gs gs')))
def smx : List XV → List XV → Bool
  | [], [] => true
  | a :: r, b :: s => smx1 a b && smx r s
  | [], _ :: _ => false
  | _ :: _, [] => false
end
theorem smx1_eq (a b : XV) : smx1 a b = (a.k == b.k && (a.n == b.n && (a.x == b.x && (a.o == b.o && smx a.gs b.gs)))) := by
  cases a; cases b; simp [smx1, XV.k, XV.n, XV.x, XV.o, XV.gs]
theorem smx_len : ∀ {r s : List XV}, smx r s = true → r.length = s.length
  | [], [], _ => rfl
  | a :: r, b :: s, h => by
    simp only [smx, Bool.and_eq_true] at h
    simp [smx_len h.2]
  | [], b :: s, h => by simp [smx] at h
  | a :: r, [], h => by simp [smx] at h
theorem smx_at : ∀ {r s : List XV}, smx r s = true → ∀ {i : Nat} {a b : XV}, r[i]? = some a → s[i]? = some b → smx1 a b = true
  | [], _, _, i, a, b, ha, _ => by simp at ha
  | _ :: _, [], _, i, a, b, _, hb => by simp at hb
  | a :: r, b :: s, h, i, x, y, ha, hb => by
    simp only [smx, Bool.and_eq_true] at h
    cases i with
    | zero => simp at ha hb; rw [← ha, ← hb]; exact h.1
    | succ i => exact smx_at h.2 (i := i) (by simpa using ha) (by simpa using hb)
theorem smx_yes : ∀ {r s : List XV}, r.length = s.length → (∀ i a b, i < r.length → r[i]? = some a → s[i]? = some b → smx1 a b = true) → smx r s = true
  | [], [], _, _ => by simp [smx]
  | [], b :: s, h, _ => by simp at h
  | a :: r, [], h, _ => by simp at h
  | a :: r, b :: s, h, hh => by
    simp only [smx, Bool.and_eq_true]
    exact ⟨hh 0 a b (by simp) rfl rfl, smx_yes (by simpa using h) fun i x y hi hx hy => hh (i + 1) x y (by simpa using hi) (by simpa using hx) (by simpa using hy)⟩
theorem smx_nolen {r s : List XV} (h : ¬ r.length = s.length) : smx r s = false := by
  rw [Bool.eq_false_iff]; exact fun e => h (smx_len e)
theorem smx_noat {r s : List XV} {i : Nat} {a b : XV} (ha : r[i]? = some a) (hb : s[i]? = some b) (h : smx1 a b = false) : smx r s = false := by
  rw [Bool.eq_false_iff]
  intro e
  rw [smx_at e ha hb] at h
  cases h
mutual
theorem smx1_refl : ∀ e : XV, smx1 e e = true
  | .mk k n x o gs l c => by simp [smx1, smx_refl gs]
theorem smx_refl : ∀ es : List XV, smx es es = true
  | [] => by simp [smx]
  | e :: r => by simp [smx, smx1_refl e, smx_refl r]
end
theorem text_eq {a b : List UInt8} (h : a = b) : ((⟨a.toArray⟩ : ByteArray).toList == (⟨b.toArray⟩ : ByteArray).toList) = true := eq_texts6 h

/-- The cells of one of a row. -/
def XCells (W : World) (p : Addr) (e : XV) (A : Option Addr) (m cap : Nat) : Prop := W.cell? p = some (.int .i64 e.k) ∧ W.cell? ⟨p.block, p.off + 1, none⟩ = some (.int .i64 e.n) ∧ W.cell? ⟨p.block, p.off + 2, none⟩ = some (.string ⟨e.x.toArray⟩) ∧ W.cell? ⟨p.block, p.off + 3, none⟩ = some (.int .i64 e.o) ∧ W.cell? ⟨p.block, p.off + 4, none⟩ = some (.slice A m cap) ∧ W.cell? ⟨p.block, p.off + 5, none⟩ = some (.int .i64 e.l) ∧ W.cell? ⟨p.block, p.off + 6, none⟩ = some (.int .i64 e.c)
end

section
open Go.RowKit

mutual
/-- Are two the same, positions aside? -/
def smy1 : SV → SV → Bool
  | .mk k x es ts us _ _, .mk k' x' es' ts' us' _ _ => k == k' && (x == x' && (smx es es' && (smy ts ts' && smy us us')))
def smy : List SV → List SV → Bool
  | [], [] => true
  | a :: r, b :: s => smy1 a b && smy r s
  | [], _ :: _ => false
  | _ :: _, [] => false
end
theorem smy1_eq (a b : SV) : smy1 a b = (a.k == b.k && (a.x == b.x && (smx a.es b.es && (smy a.ts b.ts && smy a.us b.us)))) := by
  cases a; cases b; simp [smy1, SV.k, SV.x, SV.es, SV.ts, SV.us]
theorem smy_len : ∀ {r s : List SV}, smy r s = true → r.length = s.length
  | [], [], _ => rfl
  | a :: r, b :: s, h => by
    simp only [smy, Bool.and_eq_true] at h
    simp [smy_len h.2]
  | [], b :: s, h => by simp [smy] at h
  | a :: r, [], h => by simp [smy] at h
theorem smy_at : ∀ {r s : List SV}, smy r s = true → ∀ {i : Nat} {a b : SV}, r[i]? = some a → s[i]? = some b → smy1 a b = true
  | [], _, _, i, a, b, ha, _ => by simp at ha
  | _ :: _, [], _, i, a, b, _, hb => by simp at hb
  | a :: r, b :: s, h, i, x, y, ha, hb => by
    simp only [smy, Bool.and_eq_true] at h
    cases i with
    | zero => simp at ha hb; rw [← ha, ← hb]; exact h.1
    | succ i => exact smy_at h.2 (i := i) (by simpa using ha) (by simpa using hb)
theorem smy_yes : ∀ {r s : List SV}, r.length = s.length → (∀ i a b, i < r.length → r[i]? = some a → s[i]? = some b → smy1 a b = true) → smy r s = true
  | [], [], _, _ => by simp [smy]
  | [], b :: s, h, _ => by simp at h
  | a :: r, [], h, _ => by simp at h
  | a :: r, b :: s, h, hh => by
    simp only [smy, Bool.and_eq_true]
    exact ⟨hh 0 a b (by simp) rfl rfl, smy_yes (by simpa using h) fun i x y hi hx hy => hh (i + 1) x y (by simpa using hi) (by simpa using hx) (by simpa using hy)⟩
theorem smy_nolen {r s : List SV} (h : ¬ r.length = s.length) : smy r s = false := by
  rw [Bool.eq_false_iff]; exact fun e => h (smy_len e)
theorem smy_noat {r s : List SV} {i : Nat} {a b : SV} (ha : r[i]? = some a) (hb : s[i]? = some b) (h : smy1 a b = false) : smy r s = false := by
  rw [Bool.eq_false_iff]
  intro e
  rw [smy_at e ha hb] at h
  cases h
mutual
theorem smy1_refl : ∀ e : SV, smy1 e e = true
  | .mk k x es ts us l c => by simp [smy1, smx_refl es, smy_refl ts, smy_refl us]
theorem smy_refl : ∀ es : List SV, smy es es = true
  | [] => by simp [smy]
  | e :: r => by simp [smy, smy1_refl e, smy_refl r]
end
/-- What a statement's cells are. -/
def scells (e : SV) (A1 : Option Addr) (c1 : Nat) (A2 : Option Addr) (c2 : Nat) (A3 : Option Addr) (c3 : Nat) : List Value := [.int .i64 e.k, .string ⟨e.x.toArray⟩, .slice A1 e.es.length c1, .slice A2 e.ts.length c2, .slice A3 e.us.length c3, .int .i64 e.l, .int .i64 e.c]
end

section
open Go.RowKit
end

section
open Go.RowKit

/-- Are two declarations the same, positions aside? -/
def smd1 (a b : DV) : Bool := a.k == b.k && (a.x == b.x && (a.lo == b.lo && (a.hi == b.hi && (a.sz == b.sz && (a.ps == b.ps && smy a.body b.body)))))
def smd : List DV → List DV → Bool
  | [], [] => true
  | a :: r, b :: s => smd1 a b && smd r s
  | [], _ :: _ => false
  | _ :: _, [] => false
theorem smd_len : ∀ {r s : List DV}, smd r s = true → r.length = s.length
  | [], [], _ => rfl
  | a :: r, b :: s, h => by
    simp only [smd, Bool.and_eq_true] at h
    simp [smd_len h.2]
  | [], b :: s, h => by simp [smd] at h
  | a :: r, [], h => by simp [smd] at h
theorem smd_at : ∀ {r s : List DV}, smd r s = true → ∀ {i : Nat} {a b : DV}, r[i]? = some a → s[i]? = some b → smd1 a b = true
  | [], _, _, i, a, b, ha, _ => by simp at ha
  | _ :: _, [], _, i, a, b, _, hb => by simp at hb
  | a :: r, b :: s, h, i, x, y, ha, hb => by
    simp only [smd, Bool.and_eq_true] at h
    cases i with
    | zero => simp at ha hb; rw [← ha, ← hb]; exact h.1
    | succ i => exact smd_at h.2 (i := i) (by simpa using ha) (by simpa using hb)
theorem smd_yes : ∀ {r s : List DV}, r.length = s.length → (∀ i a b, i < r.length → r[i]? = some a → s[i]? = some b → smd1 a b = true) → smd r s = true
  | [], [], _, _ => by simp [smd]
  | [], b :: s, h, _ => by simp at h
  | a :: r, [], h, _ => by simp at h
  | a :: r, b :: s, h, hh => by
    simp only [smd, Bool.and_eq_true]
    exact ⟨hh 0 a b (by simp) rfl rfl, smd_yes (by simpa using h) fun i x y hi hx hy => hh (i + 1) x y (by simpa using hi) (by simpa using hx) (by simpa using hy)⟩
theorem smd_nolen {r s : List DV} (h : ¬ r.length = s.length) : smd r s = false := by
  rw [Bool.eq_false_iff]; exact fun e => h (smd_len e)
theorem smd_noat {r s : List DV} {i : Nat} {a b : DV} (ha : r[i]? = some a) (hb : s[i]? = some b) (h : smd1 a b = false) : smd r s = false := by
  rw [Bool.eq_false_iff]
  intro e
  rw [smd_at e ha hb] at h
  cases h
theorem smd_refl : ∀ ds : List DV, smd ds ds = true
  | [] => by simp [smd]
  | d :: r => by simp [smd, smd1, smd_refl r, smy_refl]
end
end Go.Proofs.YtejifkeeihkcjaaDoor
