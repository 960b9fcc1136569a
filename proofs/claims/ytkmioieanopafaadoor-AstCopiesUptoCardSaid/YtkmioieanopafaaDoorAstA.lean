/- Stage 6, ahead of the code: trees of expressions and statements, and how they lie in memory (no program in it). -/
import Derived.Test.YtkmioieanopafaaDoorBox
namespace Go.Proofs.YtkmioieanopafaaDoor
open Go.RowKit

/-- An expression: its kind, number, name, operator, arguments, line and column. -/
inductive XV where
  | mk (k n : Int) (x : List UInt8) (o : Int) (gs : List XV) (l c : Int)
/-- A statement: its kind, name, expressions, then, else, line and column. -/
inductive SV where
  | mk (k : Int) (x : List UInt8) (es : List XV) (ts us : List SV) (l c : Int)
namespace XV
def k : XV → Int | .mk k _ _ _ _ _ _ => k
def n : XV → Int | .mk _ n _ _ _ _ _ => n
def x : XV → List UInt8 | .mk _ _ x _ _ _ _ => x
def o : XV → Int | .mk _ _ _ o _ _ _ => o
def gs : XV → List XV | .mk _ _ _ _ gs _ _ => gs
def l : XV → Int | .mk _ _ _ _ _ l _ => l
def c : XV → Int | .mk _ _ _ _ _ _ c => c
end XV
namespace SV
def k : SV → Int | .mk k _ _ _ _ _ _ => k
def x : SV → List UInt8 | .mk _ x _ _ _ _ _ => x
def es : SV → List XV | .mk _ _ es _ _ _ _ => es
def ts : SV → List SV | .mk _ _ _ ts _ _ _ => ts
def us : SV → List SV | .mk _ _ _ _ us _ _ => us
def l : SV → Int | .mk _ _ _ _ _ l _ => l
def c : SV → Int | .mk _ _ _ _ _ _ c => c
end SV

mutual
/-- How many there are in one; in a row. -/
def xsz1 : XV → Nat
  | .mk _ _ _ _ gs _ _ => 1 + xsz gs
def xsz : List XV → Nat
  | [] => 0
  | e :: r => xsz1 e + xsz r
end
mutual
def ssz1 : SV → Nat
  | .mk _ _ es ts us _ _ => 1 + xsz es + ssz ts + ssz us
def ssz : List SV → Nat
  | [] => 0
  | s :: r => ssz1 s + ssz r
end
theorem xsz1_eq (e : XV) : xsz1 e = 1 + xsz e.gs := by cases e; simp [xsz1, XV.gs]
theorem ssz1_eq (s : SV) : ssz1 s = 1 + xsz s.es + ssz s.ts + ssz s.us := by cases s; simp [ssz1, SV.es, SV.ts, SV.us]
theorem xsz_get {es : List XV} {i : Nat} {e : XV} (h : es[i]? = some e) : xsz1 e ≤ xsz es := by
  induction es generalizing i with
  | nil => simp at h
  | cons a r ih =>
    cases i with
    | zero => simp at h; subst h; simp [xsz]
    | succ i => have := ih (by simpa using h); simp [xsz]; omega
theorem ssz_get {es : List SV} {i : Nat} {e : SV} (h : es[i]? = some e) : ssz1 e ≤ ssz es := by
  induction es generalizing i with
  | nil => simp at h
  | cons a r ih =>
    cases i with
    | zero => simp at h; subst h; simp [ssz]
    | succ i => have := ih (by simpa using h); simp [ssz]; omega
theorem xsz_len (es : List XV) : es.length ≤ xsz es := by
  induction es with
  | nil => simp
  | cons a r ih => simp [xsz, xsz1_eq]; omega
theorem ssz_len (es : List SV) : es.length ≤ ssz es := by
  induction es with
  | nil => simp
  | cons a r ih => simp [ssz, ssz1_eq]; omega
theorem xsz_take {es : List XV} {i : Nat} {e : XV} (h : es[i]? = some e) : xsz (es.take (i + 1)) = xsz (es.take i) + (1 + xsz e.gs) := by
  rw [List.take_add_one, h]
  generalize es.take i = r
  induction r with
  | nil => simp [xsz, xsz1_eq]
  | cons a r ih => simp only [List.cons_append, xsz, ih]; omega
theorem ssz_take {es : List SV} {i : Nat} {e : SV} (h : es[i]? = some e) : ssz (es.take (i + 1)) = ssz (es.take i) + (1 + xsz e.es + ssz e.ts + ssz e.us) := by
  rw [List.take_add_one, h]
  generalize es.take i = r
  induction r with
  | nil => simp [ssz, ssz1_eq]
  | cons a r ih => simp only [List.cons_append, ssz, ih]; omega
theorem xsz_take_le (es : List XV) (i : Nat) : xsz (es.take i) ≤ xsz es := by
  induction es generalizing i with
  | nil => simp
  | cons a r ih =>
    cases i with
    | zero => simp [xsz]
    | succ i => have := ih i; simp [xsz]; omega
theorem ssz_take_le (es : List SV) (i : Nat) : ssz (es.take i) ≤ ssz es := by
  induction es generalizing i with
  | nil => simp
  | cons a r ih =>
    cases i with
    | zero => simp [ssz]
    | succ i => have := ih i; simp [ssz]; omega

mutual
/-- The cells of an expression; a row of expressions from an address on. -/
def XC (W : World) : XV → List Value → Prop
  | .mk k n x o gs l c, cs => ∃ (A : Option Addr) (cap : Nat), cs = [.int .i64 k, .int .i64 n, .string ⟨x.toArray⟩, .int .i64 o, .slice A gs.length cap, .int .i64 l, .int .i64 c] ∧ (gs ≠ [] → ∃ ad, A = some ad ∧ XS W gs ad)
def XS (W : World) : List XV → Addr → Prop
  | [], _ => True
  | e :: r, ad => (∃ cs, XC W e cs ∧ ∀ j v, cs[j]? = some v → W.cell? (ad.add j) = some v) ∧ XS W r (ad.add 7)
end
/-- A slice that reads gs expressions. -/
def XR (W : World) (A : Option Addr) (es : List XV) : Prop := es ≠ [] → ∃ ad, A = some ad ∧ XS W es ad
mutual
def SC (W : World) : SV → List Value → Prop
  | .mk k x es ts us l c, cs => ∃ (A1 : Option Addr) (c1 : Nat) (A2 : Option Addr) (c2 : Nat) (A3 : Option Addr) (c3 : Nat), cs = [.int .i64 k, .string ⟨x.toArray⟩, .slice A1 es.length c1, .slice A2 ts.length c2, .slice A3 us.length c3, .int .i64 l, .int .i64 c] ∧ XR W A1 es ∧ (ts ≠ [] → ∃ ad, A2 = some ad ∧ SS W ts ad) ∧ (us ≠ [] → ∃ ad, A3 = some ad ∧ SS W us ad)
def SS (W : World) : List SV → Addr → Prop
  | [], _ => True
  | e :: r, ad => (∃ cs, SC W e cs ∧ ∀ j v, cs[j]? = some v → W.cell? (ad.add j) = some v) ∧ SS W r (ad.add 7)
end
def SR (W : World) (A : Option Addr) (es : List SV) : Prop := es ≠ [] → ∃ ad, A = some ad ∧ SS W es ad

theorem addr_add (p : Addr) (a b : Nat) : (p.add a).add b = p.add (a + b) := by rw [add_of_add]
/-- One expression of a row, in memory; and of statements. -/
def XE (W : World) (p : Addr) (e : XV) : Prop := ∃ (A : Option Addr) (cap : Nat), W.cell? p = some (.int .i64 e.k) ∧ W.cell? ⟨p.block, p.off + 1, none⟩ = some (.int .i64 e.n) ∧ W.cell? ⟨p.block, p.off + 2, none⟩ = some (.string ⟨e.x.toArray⟩) ∧ W.cell? ⟨p.block, p.off + 3, none⟩ = some (.int .i64 e.o) ∧ W.cell? ⟨p.block, p.off + 4, none⟩ = some (.slice A e.gs.length cap) ∧ W.cell? ⟨p.block, p.off + 5, none⟩ = some (.int .i64 e.l) ∧ W.cell? ⟨p.block, p.off + 6, none⟩ = some (.int .i64 e.c) ∧ XR W A e.gs
def SE (W : World) (p : Addr) (e : SV) : Prop := ∃ (A1 : Option Addr) (c1 : Nat) (A2 : Option Addr) (c2 : Nat) (A3 : Option Addr) (c3 : Nat), W.cell? p = some (.int .i64 e.k) ∧ W.cell? ⟨p.block, p.off + 1, none⟩ = some (.string ⟨e.x.toArray⟩) ∧ W.cell? ⟨p.block, p.off + 2, none⟩ = some (.slice A1 e.es.length c1) ∧ W.cell? ⟨p.block, p.off + 3, none⟩ = some (.slice A2 e.ts.length c2) ∧ W.cell? ⟨p.block, p.off + 4, none⟩ = some (.slice A3 e.us.length c3) ∧ W.cell? ⟨p.block, p.off + 5, none⟩ = some (.int .i64 e.l) ∧ W.cell? ⟨p.block, p.off + 6, none⟩ = some (.int .i64 e.c) ∧ XR W A1 e.es ∧ SR W A2 e.ts ∧ SR W A3 e.us
theorem XS.get {W : World} : ∀ {es : List XV} {ad : Addr} (_ : XS W es ad) {i : Nat} {e : XV} (_ : es[i]? = some e), ∃ cs, XC W e cs ∧ ∀ j v, cs[j]? = some v → W.cell? ((ad.add (i * 7)).add j) = some v
  | [], _, _, i, e, h => by simp at h
  | a :: r, ad, hx, i, e, h => by
    unfold XS at hx
    cases i with
    | zero =>
      simp at h
      subst h
      rw [Nat.zero_mul, show ad.add 0 = ad by simp [Addr.add]]
      exact hx.1
    | succ i =>
      obtain ⟨cs, h1, h2⟩ := XS.get hx.2 (i := i) (by simpa using h)
      refine ⟨cs, h1, fun j v hj => ?_⟩
      have := h2 j v hj
      rw [addr_add ad 7 (i * 7)] at this
      rwa [show (i + 1) * 7 = 7 + i * 7 by omega]
theorem SS.get {W : World} : ∀ {es : List SV} {ad : Addr} (_ : SS W es ad) {i : Nat} {e : SV} (_ : es[i]? = some e), ∃ cs, SC W e cs ∧ ∀ j v, cs[j]? = some v → W.cell? ((ad.add (i * 7)).add j) = some v
  | [], _, _, i, e, h => by simp at h
  | a :: r, ad, hx, i, e, h => by
    unfold SS at hx
    cases i with
    | zero =>
      simp at h
      subst h
      rw [Nat.zero_mul, show ad.add 0 = ad by simp [Addr.add]]
      exact hx.1
    | succ i =>
      obtain ⟨cs, h1, h2⟩ := SS.get hx.2 (i := i) (by simpa using h)
      refine ⟨cs, h1, fun j v hj => ?_⟩
      have := h2 j v hj
      rw [addr_add ad 7 (i * 7)] at this
      rwa [show (i + 1) * 7 = 7 + i * 7 by omega]
theorem XR.el {W : World} {A : Option Addr} {es : List XV} (h : XR W A es) {i : Nat} (hi : i < es.length) : ∃ ad e, A = some ad ∧ es[i]? = some e ∧ XE W (ad.add (i * 7)) e := by
  obtain ⟨ad, hA, hx⟩ := h (by rintro rfl; simp at hi)
  obtain ⟨e, he⟩ : ∃ e, es[i]? = some e := ⟨_, List.getElem?_eq_getElem hi⟩
  obtain ⟨cs, h1, h2⟩ := hx.get he
  cases e with
  | mk k n x o gs l c =>
    unfold XC at h1
    obtain ⟨A', cap, rfl, h3⟩ := h1
    refine ⟨ad, _, hA, he, A', cap, ?_, ?_, ?_, ?_, ?_, ?_, ?_, h3⟩
    · have := h2 0 _ rfl; rwa [show ∀ p : Addr, p.add 0 = p by intro p; simp [Addr.add]] at this
    · exact h2 1 _ rfl
    · exact h2 2 _ rfl
    · exact h2 3 _ rfl
    · exact h2 4 _ rfl
    · exact h2 5 _ rfl
    · exact h2 6 _ rfl
theorem SR.el {W : World} {A : Option Addr} {es : List SV} (h : SR W A es) {i : Nat} (hi : i < es.length) : ∃ ad e, A = some ad ∧ es[i]? = some e ∧ SE W (ad.add (i * 7)) e := by
  obtain ⟨ad, hA, hx⟩ := h (by rintro rfl; simp at hi)
  obtain ⟨e, he⟩ : ∃ e, es[i]? = some e := ⟨_, List.getElem?_eq_getElem hi⟩
  obtain ⟨cs, h1, h2⟩ := hx.get he
  cases e with
  | mk k x es ts us l c =>
    unfold SC at h1
    obtain ⟨A1, c1, A2, c2, A3, c3, rfl, h3, h4, h5⟩ := h1
    refine ⟨ad, _, hA, he, A1, c1, A2, c2, A3, c3, ?_, ?_, ?_, ?_, ?_, ?_, ?_, h3, h4, h5⟩
    · have := h2 0 _ rfl; rwa [show ∀ p : Addr, p.add 0 = p by intro p; simp [Addr.add]] at this
    · exact h2 1 _ rfl
    · exact h2 2 _ rfl
    · exact h2 3 _ rfl
    · exact h2 4 _ rfl
    · exact h2 5 _ rfl
    · exact h2 6 _ rfl

mutual
theorem XC.step {W W' : World} (hb : Below W.heap.size W W') : ∀ (e : XV) (cs : List Value), XC W e cs → XC W' e cs
  | .mk k n x o gs l c, cs, h => by
    unfold XC at h ⊢
    obtain ⟨A, cap, h1, h2⟩ := h
    refine ⟨A, cap, h1, fun h0 => ?_⟩
    obtain ⟨ad, h3, h4⟩ := h2 h0
    exact ⟨ad, h3, XS.step hb gs ad h4⟩
theorem XS.step {W W' : World} (hb : Below W.heap.size W W') : ∀ (es : List XV) (ad : Addr), XS W es ad → XS W' es ad
  | [], _, _ => by unfold XS; trivial
  | e :: r, ad, h => by
    unfold XS at h ⊢
    obtain ⟨⟨cs, h1, h2⟩, h3⟩ := h
    exact ⟨⟨cs, XC.step hb e cs h1, fun j v hj => cst5 hb (h2 j v hj)⟩, XS.step hb r _ h3⟩
end
theorem XR.step {W W' : World} {A : Option Addr} {es : List XV} (h : XR W A es) (hb : Below W.heap.size W W') : XR W' A es := fun h0 => by
  obtain ⟨ad, h1, h2⟩ := h h0
  exact ⟨ad, h1, XS.step hb es ad h2⟩
mutual
theorem SC.step {W W' : World} (hb : Below W.heap.size W W') : ∀ (e : SV) (cs : List Value), SC W e cs → SC W' e cs
  | .mk k x es ts us l c, cs, h => by
    unfold SC at h ⊢
    obtain ⟨A1, c1, A2, c2, A3, c3, h1, h2, h3, h4⟩ := h
    refine ⟨A1, c1, A2, c2, A3, c3, h1, h2.step hb, fun h0 => ?_, fun h0 => ?_⟩
    · obtain ⟨ad, h5, h6⟩ := h3 h0
      exact ⟨ad, h5, SS.step hb ts ad h6⟩
    · obtain ⟨ad, h5, h6⟩ := h4 h0
      exact ⟨ad, h5, SS.step hb us ad h6⟩
theorem SS.step {W W' : World} (hb : Below W.heap.size W W') : ∀ (es : List SV) (ad : Addr), SS W es ad → SS W' es ad
  | [], _, _ => by unfold SS; trivial
  | e :: r, ad, h => by
    unfold SS at h ⊢
    obtain ⟨⟨cs, h1, h2⟩, h3⟩ := h
    exact ⟨⟨cs, SC.step hb e cs h1, fun j v hj => cst5 hb (h2 j v hj)⟩, SS.step hb r _ h3⟩
end
theorem SR.step {W W' : World} {A : Option Addr} {es : List SV} (h : SR W A es) (hb : Below W.heap.size W W') : SR W' A es := fun h0 => by
  obtain ⟨ad, h1, h2⟩ := h h0
  exact ⟨ad, h1, SS.step hb es ad h2⟩
end Go.Proofs.YtkmioieanopafaaDoor
