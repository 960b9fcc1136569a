/- The docs' copies of expressions, statements and programs: rows of the call's own that grow; Pos, Expr, Exprs. -/
import Derived.Test.YtkmioieanopafaaDoorAstW
import Derived.Test.YtkmioieanopafaaDoorAstE
import Derived.Deep.AppendLies
import Derived.RangeFuncBox
namespace Go.Proofs.YtkmioieanopafaaDoor
open Go.RowKit

theorem frB_set (W : World) {B b o : Nat} (u : Value) (h : b < B) : Sub (only W (frB B)) (only (W.setCell ⟨b, o, none⟩ u) (frB B)) := Sub.only_of (by simp [World.setCell]) fun p v hp hv => by
  refine ⟨?_, hp⟩
  rw [World.cell?_setCell_other _ _ _ _ ?_]
  · exact hv
  · rintro rfl
    unfold frB at hp
    simp at hp
    omega

/-- An append that has been run, at a list of operations; at a step of a region that draws. -/
theorem wpList_append_run {P : Program} {ops : Array Oper} {rest : List Oper} {o : Oper} {a : Act} {w : World} {Q : Exit → Act → World → Prop} (hgd : o.guard = none) (s x : Operand) (t : TypeId)
    (ho : o.op = .call { callee := .builtin .append, args := #[s, x], argTypes := #[t, t] }) (v y v' : Value) (w' : World) (hs : a.eval s = v) (hx : a.eval x = y) (hrun : (Builtin.append_ #[t, t] o.type #[v, y]).run P w = .ok v' w') (h : wpList P ops Q rest (a.put o.dst v') w') : wpList P ops Q (o :: rest) a w :=
  wpList_plain hgd fun _ hK => by
    unfold Oper.wp execOp
    simp only [ho, resolve, invoke, builtin, Sem.run_bind, Sem.run_pure, Result.andThen_ok, List.map_toArray, List.map_cons, List.map_nil, hs, hx, hrun]
    exact hK _ _ h
theorem step_append_run {P : Program} {ops : Array Oper} {o : Oper} {a : Act} {w : World} {K : Act → World → Prop} {Q : Exit → Act → World → Prop} {E : Prop} (hgd : o.guard = none) (s x : Operand) (t : TypeId)
    (ho : o.op = .call { callee := .builtin .append, args := #[s, x], argTypes := #[t, t] }) (v y v' : Value) (w' : World) (hs : a.eval s = v) (hx : a.eval x = y) (hrun : (Builtin.append_ #[t, t] o.type #[v, y]).run P w = .ok v' w') (h : K (a.put o.dst v') w') :
    if Region.wanted o (yielded ops a.tmps) = true then Oper.wp P o a w K Q else E := by
  have hw : Region.wanted o (yielded ops a.tmps) = true := by simp [Region.wanted, hgd]
  rw [if_pos hw]
  unfold Oper.wp execOp
  simp only [ho, resolve, invoke, builtin, Sem.run_bind, Sem.run_pure, Result.andThen_ok, List.map_toArray, List.map_cons, List.map_nil, hs, hx, hrun]
  exact h

/-- Rows of some kind of trees: what a row's cells say, and one's; what is asked of these. -/
structure Kd (α : Type) where
  L : World → List α → List Value → Prop
  C : World → α → List Value → Prop
  R : World → Option Addr → List α → Prop
  z : Nat
  z0 : 0 < z
  nil : ∀ W, L W [] []
  ls : ∀ {W W' : World}, Sub W W' → ∀ {es vs}, L W es vs → L W' es vs
  cs : ∀ {W W' : World}, Sub W W' → ∀ {e vs}, C W e vs → C W' e vs
  sn : ∀ {W : World} {es vs e us}, L W es vs → C W e us → L W (es ++ [e]) (vs ++ us)
  cl : ∀ {W : World} {e us}, C W e us → us.length = z
  co : ∀ {W : World} {e us}, C W e us → ∀ u ∈ us, u.oneCell' = true
  ll : ∀ {W : World} {es vs}, L W es vs → vs.length = es.length * z
  r0 : ∀ W A, R W A []
  rc : ∀ {W : World} {g : Nat} {es vs}, L W es vs → (∀ j v, vs[j]? = some v → W.cell? ⟨g, j, none⟩ = some v) → R W (some ⟨g, 0, none⟩) es
  rs : ∀ {W W' : World}, Sub W W' → ∀ {A es}, R W A es → R W' A es
def kdX : Kd XV := { L := XL, C := XC, R := XR, z := 7, z0 := by omega, nil := fun _ => rfl, ls := fun h _ _ k => XL.sub h k, cs := fun h _ _ k => XC.sub h _ _ k, sn := fun h k => XL.snoc h k, cl := fun h => h.len, co := fun h => h.one, ll := fun h => h.len, r0 := XR.nil, rc := fun h k => fun _ => ⟨_, rfl, XS.of_cells h fun j v hj => by have := k j v hj; simpa using this⟩, rs := fun h _ _ k => k.sub h }
def kdS : Kd SV := { L := SL, C := SC, R := SR, z := 7, z0 := by omega, nil := fun _ => rfl, ls := fun h _ _ k => SL.sub h k, cs := fun h _ _ k => SC.sub h _ _ k, sn := fun h k => SL.snoc h k, cl := fun h => h.len, co := fun h => h.one, ll := fun h => h.len, r0 := SR.nil, rc := fun h k => fun _ => ⟨_, rfl, SS.of_cells h fun j v hj => by have := k j v hj; simpa using this⟩, rs := fun h _ _ k => k.sub h }
def kdD : Kd DV := { L := DL, C := DC, R := DR, z := 9, z0 := by omega, nil := fun _ => rfl, ls := fun h _ _ k => DL.sub h k, cs := fun h _ _ k => DC.sub h k, sn := fun h k => DL.snoc h k, cl := fun h => h.len, co := fun h => h.one, ll := fun h => h.len, r0 := DR.nil, rc := fun h k => DR.of_cells h k, rs := fun h _ _ k => k.sub h }

/-- A row of the call's own that grows; what it holds lies beside it, and is new too. -/
def GrowG {α : Type} (K : Kd α) (T : TypeId) (w0 : World) (v : Value) (es : List α) (W : World) : Prop :=
  ∃ vs, W.ownsRow w0.heap.size T K.z v es.length vs ∧ K.L (only W (frO w0.heap.size v.ownBlock)) es vs ∧ Below w0.heap.size w0 W
theorem own_lt {W : World} {B : Nat} {T : TypeId} {z n : Nat} {v : Value} {vs : List Value} (h : W.ownsRow B T z v n vs) : ∀ g, v.ownBlock = some g → B ≤ g ∧ g < W.heap.size := fun g hg => by
  rcases h.2 with ⟨rfl, _⟩ | ⟨g', cap, cur, rfl, hb, hgb, _⟩
  · simp [Value.ownBlock] at hg
  · have : g' = g := by simpa [Value.ownBlock] using hg
    subst this
    exact ⟨hb, (Array.getElem?_eq_some_iff.1 hgb).1⟩
theorem own_below {W W' : World} {B : Nat} {T : TypeId} {z n : Nat} {v : Value} {vs : List Value} (h : W.ownsRow B T z v n vs) (hb : Below W.heap.size W W') : W'.ownsRow B T z v n vs := by
  refine ⟨h.1, ?_⟩
  rcases h.2 with h2 | ⟨g, cap, cur, hv, hg, hh, r⟩
  · exact Or.inl h2
  · exact Or.inr ⟨g, cap, cur, hv, hg, by rw [hb.block g (Array.getElem?_eq_some_iff.1 hh).1]; exact hh, r⟩
section
variable {α : Type} {K : Kd α} {T : TypeId} {w0 W W' : World} {v : Value} {es : List α}
theorem GrowG.start (K : Kd α) (T : TypeId) (w0 : World) : GrowG K T w0 (.slice none 0 0) [] w0 := ⟨[], World.ownsRow_nil _ _ _ _, K.nil _, Below.refl _ _⟩
theorem GrowG.bel (h : GrowG K T w0 v es W) : Below w0.heap.size w0 W := h.choose_spec.2.2
theorem GrowG.step (h : GrowG K T w0 v es W) (hb : Below W.heap.size W W') : GrowG K T w0 v es W' := by
  obtain ⟨vs, h1, h2, h3⟩ := h
  exact ⟨vs, own_below h1 hb, K.ls (frO_below _ _ hb) h2, bth5 h3 hb⟩
end

/-- The same, from block B on; nothing is said of what stood before. -/
def GrowB {α : Type} (K : Kd α) (T : TypeId) (B : Nat) (v : Value) (es : List α) (W : World) : Prop :=
  ∃ vs, W.ownsRow B T K.z v es.length vs ∧ K.L (only W (frO B v.ownBlock)) es vs
section
variable {α : Type} {K : Kd α} {T : TypeId} {w0 W W' : World} {v : Value} {es : List α} {B : Nat}
theorem GrowG.b (h : GrowG K T w0 v es W) : GrowB K T w0.heap.size v es W := let ⟨vs, h1, h2, _⟩ := h; ⟨vs, h1, h2⟩
theorem GrowB.start (K : Kd α) (T : TypeId) (B : Nat) (W : World) : GrowB K T B (.slice none 0 0) [] W := ⟨[], World.ownsRow_nil _ _ _ _, K.nil _⟩
theorem GrowB.step (h : GrowB K T B v es W) (hb : Below W.heap.size W W') : GrowB K T B v es W' := by
  obtain ⟨vs, h1, h2⟩ := h
  exact ⟨vs, own_below h1 hb, K.ls (frO_below _ _ hb) h2⟩
/-- What lies before is written. -/
theorem GrowB.set (h : GrowB K T B v es W) {p : Addr} (hp : p.block < B) (u : Value) : GrowB K T B v es (W.setCell p u) := by
  obtain ⟨vs, h1, h2⟩ := h
  refine ⟨vs, ?_, K.ls (Sub.only_of (by simp [World.setCell]) fun q x hq hx => ⟨?_, hq⟩) h2⟩
  · refine ⟨h1.1, ?_⟩
    rcases h1.2 with h2 | ⟨g, cap, cur, hv, hg, hh, r⟩
    · exact Or.inl h2
    · exact Or.inr ⟨g, cap, cur, hv, hg, by rw [Below.heap_setCell _ _ _ g (by omega)]; exact hh, r⟩
  · rw [World.cell?_setCell_other _ _ _ _ ?_]
    · exact hx
    · rintro rfl
      unfold frO at hq
      simp at hq
      omega
/-- One more. -/
theorem GrowB.push {P : Program} {S ty : TypeId} {i : TypeInfo} {z : Value} {bytes : Nat} (h : GrowB K T B v es W) (hB : B ≤ W.heap.size) (hb : Below W.heap.size W W') {e : α} {cs : List Value} (hc : K.C (only W' (frB W.heap.size)) e cs)
    (ht : P.underlying S = some (.slice T)) (hi : P.info? T = some i) (hz : i.zero = some z) (hsize : i.size = K.z) (hby : i.bytes = bytes) (hzs : z.cells.size = K.z) (hbs : bytes ≤ 1000) (hlen : es.length ≤ 1000000000) :
    ∃ g cap w3, (Builtin.append_ #[S, S] ty #[v, .slice (some ⟨W'.heap.size, 0, none⟩) 1 1]).run P (W'.alloc (.cells cs.toArray T)) = .ok (.slice (some ⟨g, 0, none⟩) (es.length + 1) cap) w3 ∧ GrowB K T B (.slice (some ⟨g, 0, none⟩) (es.length + 1) cap) (es ++ [e]) w3
      ∧ (W'.alloc (.cells cs.toArray T)).grownBy w3 v.ownBlock := by
  obtain ⟨vs, h1, h2⟩ := h.step hb
  obtain ⟨vs0, k1, -⟩ := h
  have hold := own_lt k1
  have hsz := hb.size
  have hnew : ∀ j u, cs[j]? = some u → (W'.alloc (.cells cs.toArray T)).cell? ((⟨W'.heap.size, 0, none⟩ : Addr).add j) = some u := fun j u hu => by
    rw [add_at, Nat.zero_add, cell_of_row _ _ j cs.toArray T (0, 0) (heap_alloc_new W' _)]
    simpa using hu
  obtain ⟨v', w3, hrun, hown, hgrow, _, hat⟩ := run_append_own_at (P := P) (W'.alloc (.cells cs.toArray T)) B S ty T i z K.z bytes ht hi hz hsize hby hzs K.z0 v es.length vs (own_below h1 (bnew5 _ _)) ⟨W'.heap.size, 0, none⟩ 1 1 cs (by rw [K.cl hc]; omega) hnew (K.co hc) (by unfold maxLen; omega) (by
      have : (es.length + 1) * bytes ≤ 1000000001 * 1000 := Nat.mul_le_mul (by omega) hbs
      omega) (by simp; omega)
  obtain ⟨g, cap, rfl⟩ := ownsRow_succ hown
  refine ⟨g, cap, w3, hrun, ⟨vs ++ cs, by simpa using hown, K.sn (K.ls (Sub.trans (frO_alloc _ _ _) (frO_grown hgrow hat)) h2) (K.cs ?_ hc)⟩, hgrow⟩
  exact Sub.trans (fr_beside (W0 := W) hB fun g hg => (hold g hg).2) (Sub.trans (frO_alloc _ _ _) (frO_grown hgrow hat))
/-- The row, at the end. -/
theorem GrowB.row (h : GrowB K T B v es W) : ∃ A c, v = .slice A es.length c ∧ K.R (only W (frB B)) A es := by
  obtain ⟨vs, h1, h2⟩ := h
  rcases h1.2 with ⟨rfl, h0⟩ | ⟨g, cap, cur, rfl, hb, hgb, hl, hc, hm, rfl⟩
  · have : es = [] := List.eq_nil_of_length_eq_zero h0
    subst this
    exact ⟨none, 0, rfl, K.r0 _ _⟩
  · refine ⟨some ⟨g, 0, none⟩, cap, rfl, K.rc (K.ls (frO_frB _ _ _) h2) fun j u hu => ?_⟩
    refine only_cell_mk ?_ (by unfold frB; simpa using hb)
    rw [cell_of_row _ _ j _ _ _ hgb]
    rw [List.getElem?_take] at hu
    split at hu
    · simpa using hu
    · cases hu
theorem GrowB.other (h : GrowB K T B v es W) {b : Nat} (hb : W.heap.size ≤ b ∨ b < B) : v.ownBlock ≠ some b := fun e => by
  obtain ⟨vs, h1, -⟩ := h
  have := own_lt h1 b e
  omega
theorem GrowG.push {P : Program} {S ty : TypeId} {i : TypeInfo} {z : Value} {bytes : Nat} (h : GrowG K T w0 v es W) (hb : Below W.heap.size W W') {e : α} {cs : List Value} (hc : K.C (only W' (frB W.heap.size)) e cs)
    (ht : P.underlying S = some (.slice T)) (hi : P.info? T = some i) (hz : i.zero = some z) (hsize : i.size = K.z) (hby : i.bytes = bytes) (hzs : z.cells.size = K.z) (hbs : bytes ≤ 1000) (hlen : es.length ≤ 1000000000) :
    ∃ g cap w3, (Builtin.append_ #[S, S] ty #[v, .slice (some ⟨W'.heap.size, 0, none⟩) 1 1]).run P (W'.alloc (.cells cs.toArray T)) = .ok (.slice (some ⟨g, 0, none⟩) (es.length + 1) cap) w3 ∧ GrowG K T w0 (.slice (some ⟨g, 0, none⟩) (es.length + 1) cap) (es ++ [e]) w3
      ∧ (W'.alloc (.cells cs.toArray T)).grownBy w3 v.ownBlock := by
  obtain ⟨g, cap, w3, h1, ⟨vs, h2, h4⟩, h3⟩ := h.b.push h.bel.size hb hc ht hi hz hsize hby hzs hbs hlen
  have h5 := bth5 h.bel hb
  exact ⟨g, cap, w3, h1, ⟨vs, h2, h4, (h5.alloc h5.size _).grown h3 (by have := h5.size; simp; omega) fun g hg => let ⟨_, k1, _⟩ := h.b; (own_lt k1 g hg).1⟩, h3⟩
theorem GrowG.row (h : GrowG K T w0 v es W) : ∃ A c, v = .slice A es.length c ∧ K.R (only W (frB w0.heap.size)) A es := h.b.row
end
end Go.Proofs.YtkmioieanopafaaDoor
