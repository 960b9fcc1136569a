/- Rows of trees, cell by cell: from a row's cells to what it reads as (no program in it). Rows of trees that lie in some blocks alone; rows that grow while others are kept (no program in it). The docs' copies of expressions, statements and programs: rows of the call's own that grow; Pos, Expr, Exprs. The docs' copies: Pos, Expr, Exprs. The docs' copies: Stmts. -/
import Derived.Test.YtejifkeeihkcjaaDoorGAstB
import Derived.Deep.AppendLies
import Derived.RangeFuncBox
namespace Go.Proofs.YtejifkeeihkcjaaDoor
section
open Go.RowKit

/-- The cells of a row of expressions; of statements; of declarations. -/
def XL (W : World) : List XV → List Value → Prop
  | [], vs => vs = []
  | e :: r, vs => ∃ cs us, vs = cs ++ us ∧ XC W e cs ∧ XL W r us
def SL (W : World) : List SV → List Value → Prop
  | [], vs => vs = []
  | e :: r, vs => ∃ cs us, vs = cs ++ us ∧ SC W e cs ∧ SL W r us
theorem XC.len {W : World} {e : XV} {cs : List Value} (h : XC W e cs) : cs.length = 7 := by
  cases e
  unfold XC at h
  obtain ⟨A, cap, rfl, -⟩ := h
  rfl
theorem SC.len {W : World} {e : SV} {cs : List Value} (h : SC W e cs) : cs.length = 7 := by
  cases e
  unfold SC at h
  obtain ⟨A1, c1, A2, c2, A3, c3, rfl, -⟩ := h
  rfl
theorem XC.one {W : World} {e : XV} {cs : List Value} (h : XC W e cs) : ∀ u ∈ cs, u.oneCell' = true := by
  cases e
  unfold XC at h
  obtain ⟨A, cap, rfl, -⟩ := h
  intro u hu
  simp only [List.mem_cons, List.not_mem_nil, or_false] at hu
  rcases hu with rfl | rfl | rfl | rfl | rfl | rfl | rfl <;> rfl
theorem SC.one {W : World} {e : SV} {cs : List Value} (h : SC W e cs) : ∀ u ∈ cs, u.oneCell' = true := by
  cases e
  unfold SC at h
  obtain ⟨A1, c1, A2, c2, A3, c3, rfl, -⟩ := h
  intro u hu
  simp only [List.mem_cons, List.not_mem_nil, or_false] at hu
  rcases hu with rfl | rfl | rfl | rfl | rfl | rfl | rfl <;> rfl
theorem XL.len {W : World} : ∀ {es : List XV} {vs : List Value}, XL W es vs → vs.length = es.length * 7
  | [], vs, h => by unfold XL at h; subst h; rfl
  | e :: r, vs, h => by
    unfold XL at h
    obtain ⟨cs, us, rfl, h1, h2⟩ := h
    have := h1.len
    have := XL.len h2
    simp; omega
theorem SL.len {W : World} : ∀ {es : List SV} {vs : List Value}, SL W es vs → vs.length = es.length * 7
  | [], vs, h => by unfold SL at h; subst h; rfl
  | e :: r, vs, h => by
    unfold SL at h
    obtain ⟨cs, us, rfl, h1, h2⟩ := h
    have := h1.len
    have := SL.len h2
    simp; omega
theorem XL.step {W W' : World} (hb : Below W.heap.size W W') : ∀ {es : List XV} {vs : List Value}, XL W es vs → XL W' es vs
  | [], vs, h => by unfold XL at h ⊢; exact h
  | e :: r, vs, h => by
    unfold XL at h ⊢
    obtain ⟨cs, us, h0, h1, h2⟩ := h
    exact ⟨cs, us, h0, XC.step hb e cs h1, XL.step hb h2⟩
theorem SL.step {W W' : World} (hb : Below W.heap.size W W') : ∀ {es : List SV} {vs : List Value}, SL W es vs → SL W' es vs
  | [], vs, h => by unfold SL at h ⊢; exact h
  | e :: r, vs, h => by
    unfold SL at h ⊢
    obtain ⟨cs, us, h0, h1, h2⟩ := h
    exact ⟨cs, us, h0, SC.step hb e cs h1, SL.step hb h2⟩
theorem XL.snoc {W : World} : ∀ {es : List XV} {vs : List Value} {e : XV} {cs : List Value}, XL W es vs → XC W e cs → XL W (es ++ [e]) (vs ++ cs)
  | [], vs, e, cs, h, hc => by
    unfold XL at h
    subst h
    exact ⟨cs, [], by simp, hc, rfl⟩
  | a :: r, vs, e, cs, h, hc => by
    unfold XL at h
    obtain ⟨ds, us, rfl, h1, h2⟩ := h
    exact ⟨ds, us ++ cs, by simp, h1, XL.snoc h2 hc⟩
theorem SL.snoc {W : World} : ∀ {es : List SV} {vs : List Value} {e : SV} {cs : List Value}, SL W es vs → SC W e cs → SL W (es ++ [e]) (vs ++ cs)
  | [], vs, e, cs, h, hc => by
    unfold SL at h
    subst h
    exact ⟨cs, [], by simp, hc, rfl⟩
  | a :: r, vs, e, cs, h, hc => by
    unfold SL at h
    obtain ⟨ds, us, rfl, h1, h2⟩ := h
    exact ⟨ds, us ++ cs, by simp, h1, SL.snoc h2 hc⟩
theorem add_at (g o j : Nat) : (⟨g, o, none⟩ : Addr).add j = ⟨g, o + j, none⟩ := by by_cases h : j = 0 <;> simp [Addr.add, h]
theorem XS.of_cells {W : World} {g : Nat} : ∀ {es : List XV} {vs : List Value} {o : Nat}, XL W es vs → (∀ j v, vs[j]? = some v → W.cell? ⟨g, o + j, none⟩ = some v) → XS W es ⟨g, o, none⟩
  | [], _, _, _, _ => by unfold XS; trivial
  | e :: r, vs, o, h, hc => by
    unfold XL at h
    obtain ⟨cs, us, rfl, h1, h2⟩ := h
    have hl := h1.len
    unfold XS
    refine ⟨⟨cs, h1, fun j v hj => ?_⟩, ?_⟩
    · rw [add_at]
      refine hc j v ?_
      rw [List.getElem?_append_left (List.getElem?_eq_some_iff.1 hj).1]
      exact hj
    · rw [add_at]
      refine XS.of_cells h2 fun j v hj => ?_
      have := hc (7 + j) v (by rw [List.getElem?_append_right (by omega), hl]; simpa using hj)
      rwa [← Nat.add_assoc] at this
theorem SS.of_cells {W : World} {g : Nat} : ∀ {es : List SV} {vs : List Value} {o : Nat}, SL W es vs → (∀ j v, vs[j]? = some v → W.cell? ⟨g, o + j, none⟩ = some v) → SS W es ⟨g, o, none⟩
  | [], _, _, _, _ => by unfold SS; trivial
  | e :: r, vs, o, h, hc => by
    unfold SL at h
    obtain ⟨cs, us, rfl, h1, h2⟩ := h
    have hl := h1.len
    unfold SS
    refine ⟨⟨cs, h1, fun j v hj => ?_⟩, ?_⟩
    · rw [add_at]
      refine hc j v ?_
      rw [List.getElem?_append_left (List.getElem?_eq_some_iff.1 hj).1]
      exact hj
    · rw [add_at]
      refine SS.of_cells h2 fun j v hj => ?_
      have := hc (7 + j) v (by rw [List.getElem?_append_right (by omega), hl]; simpa using hj)
      rwa [← Nat.add_assoc] at this
/-- A new block that holds a row's cells. -/
theorem XR.of_block {W : World} {g : Nat} {t : TypeId} {fr : Nat × Nat} {es : List XV} {vs : List Value} (hg : W.heap[g]? = some (.cells vs.toArray t fr)) (h : XL W es vs) : XR W (some ⟨g, 0, none⟩) es := fun _ =>
  ⟨_, rfl, XS.of_cells h fun j v hj => by rw [cell_of_row _ _ _ vs.toArray t fr hg]; simpa using hj⟩
theorem SR.of_block {W : World} {g : Nat} {t : TypeId} {fr : Nat × Nat} {es : List SV} {vs : List Value} (hg : W.heap[g]? = some (.cells vs.toArray t fr)) (h : SL W es vs) : SR W (some ⟨g, 0, none⟩) es := fun _ =>
  ⟨_, rfl, SS.of_cells h fun j v hj => by rw [cell_of_row _ _ _ vs.toArray t fr hg]; simpa using hj⟩
theorem XR.nil (W : World) (A : Option Addr) : XR W A [] := fun h => absurd rfl h
theorem SR.nil (W : World) (A : Option Addr) : SR W A [] := fun h => absurd rfl h
theorem DR.nil (W : World) (A : Option Addr) : DR W A [] := fun h => absurd rfl h
end

section
open Go.RowKit

/-- The world, of which only some blocks are looked at. -/
def only (W : World) (ok : Nat → Bool) : World := { W with heap := W.heap.mapIdx fun i o => if ok i then o else .cells #[] 0 }
theorem only_size (W : World) (ok : Nat → Bool) : (only W ok).heap.size = W.heap.size := by simp [only]
theorem only_heap (W : World) (ok : Nat → Bool) (i : Nat) : (only W ok).heap[i]? = W.heap[i]?.map fun o => if ok i then o else .cells #[] 0 := by simp [only, Array.getElem?_mapIdx]
theorem only_cell {W : World} {ok : Nat → Bool} {p : Addr} {v : Value} (h : (only W ok).cell? p = some v) : ok p.block = true ∧ W.cell? p = some v := by
  unfold World.cell? at h ⊢
  rw [only_heap] at h
  cases hb : W.heap[p.block]? with
  | none => rw [hb] at h; simp at h
  | some o =>
    rw [hb] at h
    cases hok : ok p.block with
    | true => rw [hok] at h; exact ⟨rfl, h⟩
    | false => rw [hok] at h; simp at h
theorem only_cell_mk {W : World} {ok : Nat → Bool} {p : Addr} {v : Value} (h : W.cell? p = some v) (hok : ok p.block = true) : (only W ok).cell? p = some v := by
  unfold World.cell? at h ⊢
  rw [only_heap, hok]
  cases hb : W.heap[p.block]? with
  | none => rw [hb] at h; cases h
  | some o => rw [hb] at h; exact h
/-- What is read in one world is read in the other. -/
def Sub (W W' : World) : Prop := W.heap.size ≤ W'.heap.size ∧ ∀ p v, W.cell? p = some v → W'.cell? p = some v
theorem Sub.refl (W : World) : Sub W W := ⟨Nat.le_refl _, fun _ _ h => h⟩
theorem Sub.trans {A B C : World} (h : Sub A B) (k : Sub B C) : Sub A C := ⟨Nat.le_trans h.1 k.1, fun p v e => k.2 p v (h.2 p v e)⟩
theorem Sub.below {W W' : World} (hb : Below W.heap.size W W') : Sub W W' := ⟨hb.size, fun _ _ h => cst5 hb h⟩
theorem Sub.only (W : World) (ok : Nat → Bool) : Sub (only W ok) W := ⟨by rw [only_size]; exact Nat.le_refl _, fun _ _ h => (only_cell h).2⟩
theorem Sub.only_of {W W' : World} {ok ok' : Nat → Bool} (hs : W.heap.size ≤ W'.heap.size) (h : ∀ p v, ok p.block = true → W.cell? p = some v → W'.cell? p = some v ∧ ok' p.block = true) : Sub (Proofs.YtejifkeeihkcjaaDoor.only W ok) (Proofs.YtejifkeeihkcjaaDoor.only W' ok') :=
  ⟨by rw [only_size, only_size]; exact hs, fun p v e => by
    obtain ⟨h1, h2⟩ := only_cell e
    obtain ⟨h3, h4⟩ := h p v h1 h2
    exact only_cell_mk h3 h4⟩
mutual
theorem XC.sub {W W' : World} (hb : Sub W W') : ∀ (e : XV) (cs : List Value), XC W e cs → XC W' e cs
  | .mk k n x o gs l c, cs, h => by
    unfold XC at h ⊢
    obtain ⟨A, cap, h1, h2⟩ := h
    refine ⟨A, cap, h1, fun h0 => ?_⟩
    obtain ⟨ad, h3, h4⟩ := h2 h0
    exact ⟨ad, h3, XS.sub hb gs ad h4⟩
theorem XS.sub {W W' : World} (hb : Sub W W') : ∀ (es : List XV) (ad : Addr), XS W es ad → XS W' es ad
  | [], _, _ => by unfold XS; trivial
  | e :: r, ad, h => by
    unfold XS at h ⊢
    obtain ⟨⟨cs, h1, h2⟩, h3⟩ := h
    exact ⟨⟨cs, XC.sub hb e cs h1, fun j v hj => hb.2 _ _ (h2 j v hj)⟩, XS.sub hb r _ h3⟩
end
theorem XR.sub {W W' : World} {A : Option Addr} {es : List XV} (h : XR W A es) (hb : Sub W W') : XR W' A es := fun h0 => by
  obtain ⟨ad, h1, h2⟩ := h h0
  exact ⟨ad, h1, XS.sub hb es ad h2⟩
mutual
theorem SC.sub {W W' : World} (hb : Sub W W') : ∀ (e : SV) (cs : List Value), SC W e cs → SC W' e cs
  | .mk k x es ts us l c, cs, h => by
    unfold SC at h ⊢
    obtain ⟨A1, c1, A2, c2, A3, c3, h1, h2, h3, h4⟩ := h
    refine ⟨A1, c1, A2, c2, A3, c3, h1, h2.sub hb, fun h0 => ?_, fun h0 => ?_⟩
    · obtain ⟨ad, h5, h6⟩ := h3 h0
      exact ⟨ad, h5, SS.sub hb ts ad h6⟩
    · obtain ⟨ad, h5, h6⟩ := h4 h0
      exact ⟨ad, h5, SS.sub hb us ad h6⟩
theorem SS.sub {W W' : World} (hb : Sub W W') : ∀ (es : List SV) (ad : Addr), SS W es ad → SS W' es ad
  | [], _, _ => by unfold SS; trivial
  | e :: r, ad, h => by
    unfold SS at h ⊢
    obtain ⟨⟨cs, h1, h2⟩, h3⟩ := h
    exact ⟨⟨cs, SC.sub hb e cs h1, fun j v hj => hb.2 _ _ (h2 j v hj)⟩, SS.sub hb r _ h3⟩
end
theorem SR.sub {W W' : World} {A : Option Addr} {es : List SV} (h : SR W A es) (hb : Sub W W') : SR W' A es := fun h0 => by
  obtain ⟨ad, h1, h2⟩ := h h0
  exact ⟨ad, h1, SS.sub hb es ad h2⟩
theorem XL.sub {W W' : World} (hb : Sub W W') : ∀ {es : List XV} {vs : List Value}, XL W es vs → XL W' es vs
  | [], vs, h => by unfold XL at h ⊢; exact h
  | e :: r, vs, h => by
    unfold XL at h ⊢
    obtain ⟨cs, us, h0, h1, h2⟩ := h
    exact ⟨cs, us, h0, XC.sub hb e cs h1, XL.sub hb h2⟩
theorem SL.sub {W W' : World} (hb : Sub W W') : ∀ {es : List SV} {vs : List Value}, SL W es vs → SL W' es vs
  | [], vs, h => by unfold SL at h ⊢; exact h
  | e :: r, vs, h => by
    unfold SL at h ⊢
    obtain ⟨cs, us, h0, h1, h2⟩ := h
    exact ⟨cs, us, h0, SC.sub hb e cs h1, SL.sub hb h2⟩
theorem RowS.sub {W W' : World} {A : Option Addr} {n : Nat} {r : List (List UInt8)} (h : RowS W A n r) (hb : Sub W W') : RowS W' A n r :=
  ⟨h.1, fun hn => by
    obtain ⟨ad, e, h1, h2⟩ := h.2 hn
    exact ⟨ad, e, Nat.lt_of_lt_of_le h1 hb.1, fun j u hu => hb.2 _ _ (h2 j u hu)⟩⟩
/-- The cells of a declaration; of a row of them. -/
def DC (W : World) (d : DV) (cs : List Value) : Prop := ∃ (A1 : Option Addr) (c1 : Nat) (A2 : Option Addr) (c2 : Nat), cs = [.int .i64 d.k, .string ⟨d.x.toArray⟩, .int .i64 d.lo, .int .i64 d.hi, .int .i64 d.sz, .slice A1 d.ps.length c1, .slice A2 d.body.length c2, .int .i64 d.l, .int .i64 d.c] ∧ RowS W A1 d.ps.length d.ps ∧ SR W A2 d.body
def DL (W : World) : List DV → List Value → Prop
  | [], vs => vs = []
  | e :: r, vs => ∃ cs us, vs = cs ++ us ∧ DC W e cs ∧ DL W r us
theorem DC.sub {W W' : World} (hb : Sub W W') {e : DV} {cs : List Value} (h : DC W e cs) : DC W' e cs := by
  obtain ⟨A1, c1, A2, c2, h0, h1, h2⟩ := h
  exact ⟨A1, c1, A2, c2, h0, h1.sub hb, h2.sub hb⟩
theorem DC.len {W : World} {e : DV} {cs : List Value} (h : DC W e cs) : cs.length = 9 := by
  obtain ⟨A1, c1, A2, c2, rfl, -⟩ := h
  rfl
theorem DC.one {W : World} {e : DV} {cs : List Value} (h : DC W e cs) : ∀ u ∈ cs, u.oneCell' = true := by
  obtain ⟨A1, c1, A2, c2, rfl, -⟩ := h
  intro u hu
  simp only [List.mem_cons, List.not_mem_nil, or_false] at hu
  rcases hu with rfl | rfl | rfl | rfl | rfl | rfl | rfl | rfl | rfl <;> rfl
theorem DL.sub {W W' : World} (hb : Sub W W') : ∀ {es : List DV} {vs : List Value}, DL W es vs → DL W' es vs
  | [], vs, h => by unfold DL at h ⊢; exact h
  | e :: r, vs, h => by
    unfold DL at h ⊢
    obtain ⟨cs, us, h0, h1, h2⟩ := h
    exact ⟨cs, us, h0, h1.sub hb, DL.sub hb h2⟩
theorem DL.len {W : World} : ∀ {es : List DV} {vs : List Value}, DL W es vs → vs.length = es.length * 9
  | [], vs, h => by unfold DL at h; subst h; rfl
  | e :: r, vs, h => by
    unfold DL at h
    obtain ⟨cs, us, rfl, h1, h2⟩ := h
    have := h1.len
    have := DL.len h2
    simp; omega
theorem DL.snoc {W : World} : ∀ {es : List DV} {vs : List Value} {e : DV} {cs : List Value}, DL W es vs → DC W e cs → DL W (es ++ [e]) (vs ++ cs)
  | [], vs, e, cs, h, hc => by
    unfold DL at h
    subst h
    exact ⟨cs, [], by simp, hc, rfl⟩
  | a :: r, vs, e, cs, h, hc => by
    unfold DL at h
    obtain ⟨ds, us, rfl, h1, h2⟩ := h
    exact ⟨ds, us ++ cs, by simp, h1, DL.snoc h2 hc⟩
theorem DL.at_ {W : World} : ∀ {es : List DV} {vs : List Value} {i : Nat} {e : DV}, DL W es vs → es[i]? = some e → ∃ cs, DC W e cs ∧ ∀ j v, cs[j]? = some v → vs[i * 9 + j]? = some v
  | [], _, _, _, _, h => by simp at h
  | a :: r, vs, i, e, h, he => by
    unfold DL at h
    obtain ⟨cs, us, rfl, h1, h2⟩ := h
    have hl := h1.len
    cases i with
    | zero =>
      simp at he
      subst he
      exact ⟨cs, h1, fun j v hj => by rw [Nat.zero_mul, Nat.zero_add, List.getElem?_append_left (List.getElem?_eq_some_iff.1 hj).1]; exact hj⟩
    | succ i =>
      obtain ⟨cs', h3, h4⟩ := DL.at_ h2 (i := i) (by simpa using he)
      refine ⟨cs', h3, fun j v hj => ?_⟩
      rw [List.getElem?_append_right (by omega), hl]
      have := h4 j v hj
      rwa [show (i + 1) * 9 + j - 9 = i * 9 + j by omega]
theorem DR.of_cells {W : World} {g : Nat} {es : List DV} {vs : List Value} (h : DL W es vs) (hc : ∀ j v, vs[j]? = some v → W.cell? ⟨g, j, none⟩ = some v) : DR W (some ⟨g, 0, none⟩) es := fun _ =>
  ⟨_, rfl, fun i d hd => by
    obtain ⟨cs, ⟨A1, c1, A2, c2, rfl, h1, h2⟩, h3⟩ := h.at_ hd
    have hp : ∀ j, ((⟨g, 0, none⟩ : Addr).add (i * 9)).block = g ∧ ((⟨g, 0, none⟩ : Addr).add (i * 9)).off + j = i * 9 + j := fun j => by rw [add_at]; exact ⟨rfl, by simp⟩
    have hc2 : ∀ j v, ([.int .i64 d.k, .string ⟨d.x.toArray⟩, .int .i64 d.lo, .int .i64 d.hi, .int .i64 d.sz, .slice A1 d.ps.length c1, .slice A2 d.body.length c2, .int .i64 d.l, .int .i64 d.c] : List Value)[j]? = some v → W.cell? ⟨((⟨g, 0, none⟩ : Addr).add (i * 9)).block, ((⟨g, 0, none⟩ : Addr).add (i * 9)).off + j, none⟩ = some v := fun j v hj => by
      rw [(hp j).1, (hp j).2]; exact hc _ _ (h3 j v hj)
    refine ⟨A1, c1, A2, c2, ?_, hc2 1 _ rfl, hc2 2 _ rfl, hc2 3 _ rfl, hc2 4 _ rfl, hc2 5 _ rfl, hc2 6 _ rfl, hc2 7 _ rfl, hc2 8 _ rfl, h1, h2⟩
    have := hc2 0 _ rfl
    rw [add_at] at this ⊢
    exact this⟩
theorem DR.sub {W W' : World} {A : Option Addr} {ds : List DV} (h : DR W A ds) (hb : Sub W W') : DR W' A ds := fun h0 => by
  obtain ⟨ad, h1, h2⟩ := h h0
  refine ⟨ad, h1, fun i d hd => ?_⟩
  obtain ⟨A1, c1, A2, c2, k0, k1, k2, k3, k4, k5, k6, k7, k8, k9, k10⟩ := h2 i d hd
  exact ⟨A1, c1, A2, c2, hb.2 _ _ k0, hb.2 _ _ k1, hb.2 _ _ k2, hb.2 _ _ k3, hb.2 _ _ k4, hb.2 _ _ k5, hb.2 _ _ k6, hb.2 _ _ k7, hb.2 _ _ k8, k9.sub hb, k10.sub hb⟩

/-- Blocks from B on; those but one. -/
def frB (B : Nat) (i : Nat) : Bool := decide (B ≤ i)
def frO (B : Nat) (ob : Option Nat) (i : Nat) : Bool := decide (B ≤ i ∧ ob ≠ some i)
theorem frB_mono {W : World} {B B' : Nat} (h : B' ≤ B) : Sub (only W (frB B)) (only W (frB B')) := Sub.only_of (Nat.le_refl _) fun _ _ hp hv => ⟨hv, by unfold frB at *; simp at *; omega⟩
theorem fr_below {W W' : World} (B : Nat) (hb : Below W.heap.size W W') : Sub (only W (frB B)) (only W' (frB B)) := Sub.only_of hb.size fun _ _ hp hv => ⟨cst5 hb hv, hp⟩
theorem frO_below {W W' : World} (B : Nat) (ob : Option Nat) (hb : Below W.heap.size W W') : Sub (only W (frO B ob)) (only W' (frO B ob)) := Sub.only_of hb.size fun _ _ hp hv => ⟨cst5 hb hv, hp⟩
theorem frO_frB (W : World) (B : Nat) (ob : Option Nat) : Sub (only W (frO B ob)) (only W (frB B)) := Sub.only_of (Nat.le_refl _) fun _ _ hp hv => ⟨hv, by unfold frO frB at *; simp at *; exact hp.1⟩
/-- What was made since W0 lies beside a row that lay before. -/
theorem fr_beside {W0 W : World} {B : Nat} {ob : Option Nat} (hB : B ≤ W0.heap.size) (ho : ∀ g, ob = some g → g < W0.heap.size) : Sub (only W (frB W0.heap.size)) (only W (frO B ob)) := Sub.only_of (Nat.le_refl _) fun _ _ hp hv => ⟨hv, by
  unfold frO frB at *
  simp at *
  exact ⟨by omega, fun e => by have := ho _ e; omega⟩⟩
/-- A row grows: what is looked at beside it is kept. -/
theorem frO_grown {W W' : World} {B : Nat} {ob ob' : Option Nat} (hg : W.grownBy W' ob) (hat : ob' = ob ∨ ob' = some W.heap.size) : Sub (only W (frO B ob)) (only W' (frO B ob')) := Sub.only_of hg.size fun p _ hp hv => by
  unfold frO at *
  simp only [decide_eq_true_eq, ne_eq] at *
  have hlt := World.block_lt_of_cell? W p hv
  refine ⟨?_, hp.1, fun e => ?_⟩
  · rw [World.cell?_of_block (hg.block p.block hlt (fun e => hp.2 e.symm))]
    exact hv
  · rcases hat with h | h
    · rw [h] at e; exact hp.2 e
    · rw [h] at e
      injection e with e
      omega
theorem frO_alloc {W : World} (B : Nat) (ob : Option Nat) (o : Obj) : Sub (only W (frO B ob)) (only (W.alloc o) (frO B ob)) := frO_below B ob (bnew5 _ _)
end

section
open Go.RowKit

theorem frB_set (W : World) {B b o : Nat} (u : Value) (h : b < B) : Sub (only W (frB B)) (only (W.setCell ⟨b, o, none⟩ u) (frB B)) := Sub.only_of (by simp [World.setCell]) fun p v hp hv => by
  refine ⟨?_, hp⟩
  rw [World.cell?_setCell_other _ _ _ _ ?_]
  · exact hv
  · rintro rfl
    unfold frB at hp
    simp at hp
    omega

/-- An append that has been run, at a list of operations; at a step of a region that draws. -/
theorem wpList_append_run {P : Program} {ops : Array Oper} {rest : List Oper} {o : Oper} {a : Act} {w : World} {Q : Exit → Act → World → Prop} (hgd : o.guard = none) (s x : Operand) (t : TypeId)
    (ho : o.op = .call { callee := .builtin .append, args := #[s, x], argTypes := #[t, t] }) (v y v' : Value) (w' : World) (hs : a.eval s = v) (hx : a.eval x = y) (hrun : (Builtin.append_ #[t, t] o.type #[v, y]).run P w = .ok v' w') (h : wpList P ops Q rest (a.put o.dst v') w') : wpList P ops Q (o :: rest) a w :=
  wpList_plain hgd fun _ hK => by
    unfold Oper.wp execOp
    simp only [ho, resolve, invoke, builtin, Sem.run_bind, Sem.run_pure, Result.andThen_ok, List.map_toArray, List.map_cons, List.map_nil, hs, hx, hrun]
    exact hK _ _ h
theorem step_append_run {P : Program} {ops : Array Oper} {o : Oper} {a : Act} {w : World} {K : Act → World → Prop} {Q : Exit → Act → World → Prop} {E : Prop} (hgd : o.guard = none) (s x : Operand) (t : TypeId)
    (ho : o.op = .call { callee := .builtin .append, args := #[s, x], argTypes := #[t, t] }) (v y v' : Value) (w' : World) (hs : a.eval s = v) (hx : a.eval x = y) (hrun : (Builtin.append_ #[t, t] o.type #[v, y]).run P w = .ok v' w') (h : K (a.put o.dst v') w') :
    if Region.wanted o (yielded ops a.tmps) = true then Oper.wp P o a w K Q else E := by
  have hw : Region.wanted o (yielded ops a.tmps) = true := by simp [Region.wanted, hgd]
  rw [if_pos hw]
  unfold Oper.wp execOp
  simp only [ho, resolve, invoke, builtin, Sem.run_bind, Sem.run_pure, Result.andThen_ok, List.map_toArray, List.map_cons, List.map_nil, hs, hx, hrun]
  exact h

/-- Rows of some kind of trees: what a row's cells say, and one's; what is asked of these. -/
structure Kd (α : Type) where
  L : World → List α → List Value → Prop
  C : World → α → List Value → Prop
  R : World → Option Addr → List α → Prop
  z : Nat
  z0 : 0 < z
  nil : ∀ W, L W [] []
  ls : ∀ {W W' : World}, Sub W W' → ∀ {es vs}, L W es vs → L W' es vs
  cs : ∀ {W W' : World}, Sub W W' → ∀ {e vs}, C W e vs → C W' e vs
  sn : ∀ {W : World} {es vs e us}, L W es vs → C W e us → L W (es ++ [e]) (vs ++ us)
  cl : ∀ {W : World} {e us}, C W e us → us.length = z
  co : ∀ {W : World} {e us}, C W e us → ∀ u ∈ us, u.oneCell' = true
  ll : ∀ {W : World} {es vs}, L W es vs → vs.length = es.length * z
  r0 : ∀ W A, R W A []
  rc : ∀ {W : World} {g : Nat} {es vs}, L W es vs → (∀ j v, vs[j]? = some v → W.cell? ⟨g, j, none⟩ = some v) → R W (some ⟨g, 0, none⟩) es
  rs : ∀ {W W' : World}, Sub W W' → ∀ {A es}, R W A es → R W' A es
def kdX : Kd XV := { L := XL, C := XC, R := XR, z := 7, z0 := by omega, nil := fun _ => rfl, ls := fun h _ _ k => XL.sub h k, cs := fun h _ _ k => XC.sub h _ _ k, sn := fun h k => XL.snoc h k, cl := fun h => h.len, co := fun h => h.one, ll := fun h => h.len, r0 := XR.nil, rc := fun h k => fun _ => ⟨_, rfl, XS.of_cells h fun j v hj => by have := k j v hj; simpa using this⟩, rs := fun h _ _ k => k.sub h }
def kdS : Kd SV := { L := SL, C := SC, R := SR, z := 7, z0 := by omega, nil := fun _ => rfl, ls := fun h _ _ k => SL.sub h k, cs := fun h _ _ k => SC.sub h _ _ k, sn := fun h k => SL.snoc h k, cl := fun h => h.len, co := fun h => h.one, ll := fun h => h.len, r0 := SR.nil, rc := fun h k => fun _ => ⟨_, rfl, SS.of_cells h fun j v hj => by have := k j v hj; simpa using this⟩, rs := fun h _ _ k => k.sub h }
def kdD : Kd DV := { L := DL, C := DC, R := DR, z := 9, z0 := by omega, nil := fun _ => rfl, ls := fun h _ _ k => DL.sub h k, cs := fun h _ _ k => DC.sub h k, sn := fun h k => DL.snoc h k, cl := fun h => h.len, co := fun h => h.one, ll := fun h => h.len, r0 := DR.nil, rc := fun h k => DR.of_cells h k, rs := fun h _ _ k => k.sub h }

/-- A row of the call's own that grows; what it holds lies beside it, and is new too. -/
def GrowG {α : Type} (K : Kd α) (T : TypeId) (w0 : World) (v : Value) (es : List α) (W : World) : Prop :=
  ∃ vs, W.ownsRow w0.heap.size T K.z v es.length vs ∧ K.L (only W (frO w0.heap.size v.ownBlock)) es vs ∧ Below w0.heap.size w0 W
theorem own_lt {W : World} {B : Nat} {T : TypeId} {z n : Nat} {v : Value} {vs : List Value} (h : W.ownsRow B T z v n vs) : ∀ g, v.ownBlock = some g → B ≤ g ∧ g < W.heap.size := fun g hg => by
  rcases h.2 with ⟨rfl, _⟩ | ⟨g', cap, cur, rfl, hb, hgb, _⟩
  · simp [Value.ownBlock] at hg
  · have : g' = g := by simpa [Value.ownBlock] using hg
    subst this
    exact ⟨hb, (Array.getElem?_eq_some_iff.1 hgb).1⟩
theorem own_below {W W' : World} {B : Nat} {T : TypeId} {z n : Nat} {v : Value} {vs : List Value} (h : W.ownsRow B T z v n vs) (hb : Below W.heap.size W W') : W'.ownsRow B T z v n vs := by
  refine ⟨h.1, ?_⟩
  rcases h.2 with h2 | ⟨g, cap, cur, hv, hg, hh, r⟩
  · exact Or.inl h2
  · exact Or.inr ⟨g, cap, cur, hv, hg, by rw [hb.block g (Array.getElem?_eq_some_iff.1 hh).1]; exact hh, r⟩
section
variable {α : Type} {K : Kd α} {T : TypeId} {w0 W W' : World} {v : Value} {es : List α}
theorem GrowG.start (K : Kd α) (T : TypeId) (w0 : World) : GrowG K T w0 (.slice none 0 0) [] w0 := ⟨[], World.ownsRow_nil _ _ _ _, K.nil _, Below.refl _ _⟩
theorem GrowG.bel (h : GrowG K T w0 v es W) : Below w0.heap.size w0 W := h.choose_spec.2.2
theorem GrowG.step (h : GrowG K T w0 v es W) (hb : Below W.heap.size W W') : GrowG K T w0 v es W' := by
  obtain ⟨vs, h1, h2, h3⟩ := h
  exact ⟨vs, own_below h1 hb, K.ls (frO_below _ _ hb) h2, bth5 h3 hb⟩
end

/-- The same, from block B on; nothing is said of what stood before. -/
def GrowB {α : Type} (K : Kd α) (T : TypeId) (B : Nat) (v : Value) (es : List α) (W : World) : Prop :=
  ∃ vs, W.ownsRow B T K.z v es.length vs ∧ K.L (only W (frO B v.ownBlock)) es vs
section
variable {α : Type} {K : Kd α} {T : TypeId} {w0 W W' : World} {v : Value} {es : List α} {B : Nat}
theorem GrowG.b (h : GrowG K T w0 v es W) : GrowB K T w0.heap.size v es W := let ⟨vs, h1, h2, _⟩ := h; ⟨vs, h1, h2⟩
theorem GrowB.start (K : Kd α) (T : TypeId) (B : Nat) (W : World) : GrowB K T B (.slice none 0 0) [] W := ⟨[], World.ownsRow_nil _ _ _ _, K.nil _⟩
theorem GrowB.step (h : GrowB K T B v es W) (hb : Below W.heap.size W W') : GrowB K T B v es W' := by
  obtain ⟨vs, h1, h2⟩ := h
  exact ⟨vs, own_below h1 hb, K.ls (frO_below _ _ hb) h2⟩
/-- What lies before is written. -/
theorem GrowB.set (h : GrowB K T B v es W) {p : Addr} (hp : p.block < B) (u : Value) : GrowB K T B v es (W.setCell p u) := by
  obtain ⟨vs, h1, h2⟩ := h
  refine ⟨vs, ?_, K.ls (Sub.only_of (by simp [World.setCell]) fun q x hq hx => ⟨?_, hq⟩) h2⟩
  · refine ⟨h1.1, ?_⟩
    rcases h1.2 with h2 | ⟨g, cap, cur, hv, hg, hh, r⟩
    · exact Or.inl h2
    · exact Or.inr ⟨g, cap, cur, hv, hg, by rw [Below.heap_setCell _ _ _ g (by omega)]; exact hh, r⟩
  · rw [World.cell?_setCell_other _ _ _ _ ?_]
    · exact hx
    · rintro rfl
      unfold frO at hq
      simp at hq
      omega
/-- One more. -/
theorem GrowB.push {P : Program} {S ty : TypeId} {i : TypeInfo} {z : Value} {bytes : Nat} (h : GrowB K T B v es W) (hB : B ≤ W.heap.size) (hb : Below W.heap.size W W') {e : α} {cs : List Value} (hc : K.C (only W' (frB W.heap.size)) e cs)
    (ht : P.underlying S = some (.slice T)) (hi : P.info? T = some i) (hz : i.zero = some z) (hsize : i.size = K.z) (hby : i.bytes = bytes) (hzs : z.cells.size = K.z) (hbs : bytes ≤ 1000) (hlen : es.length ≤ 1000000000) :
    ∃ g cap w3, (Builtin.append_ #[S, S] ty #[v, .slice (some ⟨W'.heap.size, 0, none⟩) 1 1]).run P (W'.alloc (.cells cs.toArray T)) = .ok (.slice (some ⟨g, 0, none⟩) (es.length + 1) cap) w3 ∧ GrowB K T B (.slice (some ⟨g, 0, none⟩) (es.length + 1) cap) (es ++ [e]) w3
      ∧ (W'.alloc (.cells cs.toArray T)).grownBy w3 v.ownBlock := by
  obtain ⟨vs, h1, h2⟩ := h.step hb
  obtain ⟨vs0, k1, -⟩ := h
  have hold := own_lt k1
  have hsz := hb.size
  have hnew : ∀ j u, cs[j]? = some u → (W'.alloc (.cells cs.toArray T)).cell? ((⟨W'.heap.size, 0, none⟩ : Addr).add j) = some u := fun j u hu => by
    rw [add_at, Nat.zero_add, cell_of_row _ _ j cs.toArray T (0, 0) (heap_alloc_new W' _)]
    simpa using hu
  obtain ⟨v', w3, hrun, hown, hgrow, _, hat⟩ := run_append_own_at (P := P) (W'.alloc (.cells cs.toArray T)) B S ty T i z K.z bytes ht hi hz hsize hby hzs K.z0 v es.length vs (own_below h1 (bnew5 _ _)) ⟨W'.heap.size, 0, none⟩ 1 1 cs (by rw [K.cl hc]; omega) hnew (K.co hc) (by unfold maxLen; omega) (by
      have : (es.length + 1) * bytes ≤ 1000000001 * 1000 := Nat.mul_le_mul (by omega) hbs
      omega) (by simp; omega)
  obtain ⟨g, cap, rfl⟩ := ownsRow_succ hown
  refine ⟨g, cap, w3, hrun, ⟨vs ++ cs, by simpa using hown, K.sn (K.ls (Sub.trans (frO_alloc _ _ _) (frO_grown hgrow hat)) h2) (K.cs ?_ hc)⟩, hgrow⟩
  exact Sub.trans (fr_beside (W0 := W) hB fun g hg => (hold g hg).2) (Sub.trans (frO_alloc _ _ _) (frO_grown hgrow hat))
/-- The row, at the end. -/
theorem GrowB.row (h : GrowB K T B v es W) : ∃ A c, v = .slice A es.length c ∧ K.R (only W (frB B)) A es := by
  obtain ⟨vs, h1, h2⟩ := h
  rcases h1.2 with ⟨rfl, h0⟩ | ⟨g, cap, cur, rfl, hb, hgb, hl, hc, hm, rfl⟩
  · have : es = [] := List.eq_nil_of_length_eq_zero h0
    subst this
    exact ⟨none, 0, rfl, K.r0 _ _⟩
  · refine ⟨some ⟨g, 0, none⟩, cap, rfl, K.rc (K.ls (frO_frB _ _ _) h2) fun j u hu => ?_⟩
    refine only_cell_mk ?_ (by unfold frB; simpa using hb)
    rw [cell_of_row _ _ j _ _ _ hgb]
    rw [List.getElem?_take] at hu
    split at hu
    · simpa using hu
    · cases hu
theorem GrowB.other (h : GrowB K T B v es W) {b : Nat} (hb : W.heap.size ≤ b ∨ b < B) : v.ownBlock ≠ some b := fun e => by
  obtain ⟨vs, h1, -⟩ := h
  have := own_lt h1 b e
  omega
theorem GrowG.push {P : Program} {S ty : TypeId} {i : TypeInfo} {z : Value} {bytes : Nat} (h : GrowG K T w0 v es W) (hb : Below W.heap.size W W') {e : α} {cs : List Value} (hc : K.C (only W' (frB W.heap.size)) e cs)
    (ht : P.underlying S = some (.slice T)) (hi : P.info? T = some i) (hz : i.zero = some z) (hsize : i.size = K.z) (hby : i.bytes = bytes) (hzs : z.cells.size = K.z) (hbs : bytes ≤ 1000) (hlen : es.length ≤ 1000000000) :
    ∃ g cap w3, (Builtin.append_ #[S, S] ty #[v, .slice (some ⟨W'.heap.size, 0, none⟩) 1 1]).run P (W'.alloc (.cells cs.toArray T)) = .ok (.slice (some ⟨g, 0, none⟩) (es.length + 1) cap) w3 ∧ GrowG K T w0 (.slice (some ⟨g, 0, none⟩) (es.length + 1) cap) (es ++ [e]) w3
      ∧ (W'.alloc (.cells cs.toArray T)).grownBy w3 v.ownBlock := by
  obtain ⟨g, cap, w3, h1, ⟨vs, h2, h4⟩, h3⟩ := h.b.push h.bel.size hb hc ht hi hz hsize hby hzs hbs hlen
  have h5 := bth5 h.bel hb
  exact ⟨g, cap, w3, h1, ⟨vs, h2, h4, (h5.alloc h5.size _).grown h3 (by have := h5.size; simp; omega) fun g hg => let ⟨_, k1, _⟩ := h.b; (own_lt k1 g hg).1⟩, h3⟩
theorem GrowG.row (h : GrowG K T w0 v es W) : ∃ A c, v = .slice A es.length c ∧ K.R (only W (frB w0.heap.size)) A es := h.b.row
end
end

section
open Go.RowKit

theorem Box.frz7 {W : World} {g : Nat} {v0 v1 v2 v3 v4 v5 v6 : Value} (h : Box W g [v0, v1, v2, v3, v4, v5, v6]) : W.frozen? ⟨g, 0, none⟩ = false ∧ W.frozen? ⟨g, 1, none⟩ = false ∧ W.frozen? ⟨g, 2, none⟩ = false ∧ W.frozen? ⟨g, 3, none⟩ = false ∧ W.frozen? ⟨g, 4, none⟩ = false ∧ W.frozen? ⟨g, 5, none⟩ = false ∧ W.frozen? ⟨g, 6, none⟩ = false := ⟨(h 0 _ rfl).2, (h 1 _ rfl).2, (h 2 _ rfl).2, (h 3 _ rfl).2, (h 4 _ rfl).2, (h 5 _ rfl).2, (h 6 _ rfl).2⟩
theorem Box.far7 {W : World} {g b : Nat} {vs : List Value} (h : Box W g vs) (hp : b ≠ g) (v0 v1 v2 v3 v4 v5 v6 : Value) : Box (((((((W.setCell ⟨b, 0, none⟩ v0).setCell ⟨b, 1, none⟩ v1).setCell ⟨b, 2, none⟩ v2).setCell ⟨b, 3, none⟩ v3).setCell ⟨b, 4, none⟩ v4).setCell ⟨b, 5, none⟩ v5).setCell ⟨b, 6, none⟩ v6) g vs :=
  ((((((h.far hp _).far hp _).far hp _).far hp _).far hp _).far hp _).far hp _
theorem frB_set7 (W : World) {B b : Nat} (v0 v1 v2 v3 v4 v5 v6 : Value) (h : b < B) : Sub (only W (frB B)) (only (((((((W.setCell ⟨b, 0, none⟩ v0).setCell ⟨b, 1, none⟩ v1).setCell ⟨b, 2, none⟩ v2).setCell ⟨b, 3, none⟩ v3).setCell ⟨b, 4, none⟩ v4).setCell ⟨b, 5, none⟩ v5).setCell ⟨b, 6, none⟩ v6) (frB B)) :=
  ((((((frB_set W v0 h).trans (frB_set _ v1 h)).trans (frB_set _ v2 h)).trans (frB_set _ v3 h)).trans (frB_set _ v4 h)).trans (frB_set _ v5 h)).trans (frB_set _ v6 h)
theorem below_set1 {w W : World} {B b o : Nat} {v : Value} (hb : Below B w W) (h : B ≤ b) : Below B w (W.setCell ⟨b, o, none⟩ v) := hb.setCell h v
theorem below_set7 {w W : World} {B b : Nat} (hb : Below B w W) (v0 v1 v2 v3 v4 v5 v6 : Value) (h : B ≤ b) : Below B w (((((((W.setCell ⟨b, 0, none⟩ v0).setCell ⟨b, 1, none⟩ v1).setCell ⟨b, 2, none⟩ v2).setCell ⟨b, 3, none⟩ v3).setCell ⟨b, 4, none⟩ v4).setCell ⟨b, 5, none⟩ v5).setCell ⟨b, 6, none⟩ v6) :=
  below_set1 (below_set1 (below_set1 (below_set1 (below_set1 (below_set1 (below_set1 hb h) h) h) h) h) h) h

/-- What a copy of a row answers: one of the same trees, in memory of its own. -/
def CopyX (es : List XV) (w : World) (r : Ending) (w' : World) : Prop := ∃ A' c', r = .returned (.slice A' es.length c') ∧ XR (only w' (frB w.heap.size)) A' es ∧ Below w.heap.size w w'
end

section
open Go.RowKit

theorem Box.grown6 {W W' : World} {row : Option Nat} {g : Nat} {vs : List Value} (h : Box W g vs) (hg : W.grownBy W' row) (hne : row ≠ some g) : Box W' g vs := fun i v hv => by
  obtain ⟨h1, h2⟩ := h i v hv
  have hlt := World.block_lt_of_cell? W ⟨g, i, none⟩ h1
  have hb := hg.block g hlt (fun e => hne e.symm)
  refine ⟨(World.cell?_of_block hb).trans h1, ?_⟩
  rw [← h2]
  unfold World.frozen?
  rw [hb]
theorem GrowG.other {α : Type} {K : Kd α} {T : TypeId} {w0 W : World} {v : Value} {es : List α} (h : GrowG K T w0 v es W) {b : Nat} (hb : W.heap.size ≤ b) : v.ownBlock ≠ some b := fun e => by
  obtain ⟨vs, h1, -, -⟩ := h
  have := (own_lt h1 b e).2
  omega
/-- What a copy of statements answers. -/
def CopyS (es : List SV) (w : World) (r : Ending) (w' : World) : Prop := ∃ A' c', r = .returned (.slice A' es.length c') ∧ SR (only w' (frB w.heap.size)) A' es ∧ Below w.heap.size w w'
end
end Go.Proofs.YtejifkeeihkcjaaDoor
