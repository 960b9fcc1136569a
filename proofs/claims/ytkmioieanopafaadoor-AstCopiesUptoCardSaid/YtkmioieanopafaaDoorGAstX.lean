/- The docs' copies of expressions, statements and programs: rows of the call's own that grow; Pos, Expr, Exprs. The docs' copies: Pos, Expr, Exprs. The docs' copies: Stmts. -/
import Derived.Test.YtkmioieanopafaaDoorAstW
import Derived.Test.YtkmioieanopafaaDoorAstE
import Derived.Deep.AppendLies
import Derived.RangeFuncBox
namespace Go.Proofs.YtkmioieanopafaaDoor
section
open Go.RowKit

theorem frB_set (W : World) {B b o : Nat} (u : Value) (h : b < B) : Sub (only W (frB B)) (only (W.setCell ⟨b, o, none⟩ u) (frB B)) := Sub.only_of (by simp [World.setCell]) fun p v hp hv => by
  refine ⟨?_, hp⟩
  rw [World.cell?_setCell_other _ _ _ _ ?_]
  · exact hv
  · rintro rfl
    unfold frB at hp
    simp at hp
    omega

/-- An append that has been run, at a list of operations; at a step of a region that draws. -/
theorem wpList_append_run {P : Program} {ops : Array Oper} {rest : List Oper} {o : Oper} {a : Act} {w : World} {Q : Exit → Act → World → Prop} (hgd : o.guard = none) (s x : Operand) (t : TypeId)
    (ho : o.op = .call { callee := .builtin .append, args := #[s, x], argTypes := #[t, t] }) (v y v' : Value) (w' : World) (hs : a.eval s = v) (hx : a.eval x = y) (hrun : (Builtin.append_ #[t, t] o.type #[v, y]).run P w = .ok v' w') (h : wpList P ops Q rest (a.put o.dst v') w') : wpList P ops Q (o :: rest) a w :=
  wpList_plain hgd fun _ hK => by
    unfold Oper.wp execOp
    simp only [ho, resolve, invoke, builtin, Sem.run_bind, Sem.run_pure, Result.andThen_ok, List.map_toArray, List.map_cons, List.map_nil, hs, hx, hrun]
    exact hK _ _ h
theorem step_append_run {P : Program} {ops : Array Oper} {o : Oper} {a : Act} {w : World} {K : Act → World → Prop} {Q : Exit → Act → World → Prop} {E : Prop} (hgd : o.guard = none) (s x : Operand) (t : TypeId)
    (ho : o.op = .call { callee := .builtin .append, args := #[s, x], argTypes := #[t, t] }) (v y v' : Value) (w' : World) (hs : a.eval s = v) (hx : a.eval x = y) (hrun : (Builtin.append_ #[t, t] o.type #[v, y]).run P w = .ok v' w') (h : K (a.put o.dst v') w') :
    if Region.wanted o (yielded ops a.tmps) = true then Oper.wp P o a w K Q else E := by
  have hw : Region.wanted o (yielded ops a.tmps) = true := by simp [Region.wanted, hgd]
  rw [if_pos hw]
  unfold Oper.wp execOp
  simp only [ho, resolve, invoke, builtin, Sem.run_bind, Sem.run_pure, Result.andThen_ok, List.map_toArray, List.map_cons, List.map_nil, hs, hx, hrun]
  exact h

/-- Rows of some kind of trees: what a row's cells say, and one's; what is asked of these. -/
structure Kd (α : Type) where
  L : World → List α → List Value → Prop
  C : World → α → List Value → Prop
  R : World → Option Addr → List α → Prop
  z : Nat
  z0 : 0 < z
  nil : ∀ W, L W [] []
  ls : ∀ {W W' : World}, Sub W W' → ∀ {es vs}, L W es vs → L W' es vs
  cs : ∀ {W W' : World}, Sub W W' → ∀ {e vs}, C W e vs → C W' e vs
  sn : ∀ {W : World} {es vs e us}, L W es vs → C W e us → L W (es ++ [e]) (vs ++ us)
  cl : ∀ {W : World} {e us}, C W e us → us.length = z
  co : ∀ {W : World} {e us}, C W e us → ∀ u ∈ us, u.oneCell' = true
  ll : ∀ {W : World} {es vs}, L W es vs → vs.length = es.length * z
  r0 : ∀ W A, R W A []
  rc : ∀ {W : World} {g : Nat} {es vs}, L W es vs → (∀ j v, vs[j]? = some v → W.cell? ⟨g, j, none⟩ = some v) → R W (some ⟨g, 0, none⟩) es
  rs : ∀ {W W' : World}, Sub W W' → ∀ {A es}, R W A es → R W' A es
def kdX : Kd XV := { L := XL, C := XC, R := XR, z := 7, z0 := by omega, nil := fun _ => rfl, ls := fun h _ _ k => XL.sub h k, cs := fun h _ _ k => XC.sub h _ _ k, sn := fun h k => XL.snoc h k, cl := fun h => h.len, co := fun h => h.one, ll := fun h => h.len, r0 := XR.nil, rc := fun h k => fun _ => ⟨_, rfl, XS.of_cells h fun j v hj => by have := k j v hj; simpa using this⟩, rs := fun h _ _ k => k.sub h }
def kdS : Kd SV := { L := SL, C := SC, R := SR, z := 7, z0 := by omega, nil := fun _ => rfl, ls := fun h _ _ k => SL.sub h k, cs := fun h _ _ k => SC.sub h _ _ k, sn := fun h k => SL.snoc h k, cl := fun h => h.len, co := fun h => h.one, ll := fun h => h.len, r0 := SR.nil, rc := fun h k => fun _ => ⟨_, rfl, SS.of_cells h fun j v hj => by have := k j v hj; simpa using this⟩, rs := fun h _ _ k => k.sub h }
def kdD : Kd DV := { L := DL, C := DC, R := DR, z := 9, z0 := by omega, nil := fun _ => rfl, ls := fun h _ _ k => DL.sub h k, cs := fun h _ _ k => DC.sub h k, sn := fun h k => DL.snoc h k, cl := fun h => h.len, co := fun h => h.one, ll := fun h => h.len, r0 := DR.nil, rc := fun h k => DR.of_cells h k, rs := fun h _ _ k => k.sub h }

/-- A row of the call's own that grows; what it holds lies beside it, and is new too. -/
def GrowG {α : Type} (K : Kd α) (T : TypeId) (w0 : World) (v : Value) (es : List α) (W : World) : Prop :=
  ∃ vs, W.ownsRow w0.heap.size T K.z v es.length vs ∧ K.L (only W (frO w0.heap.size v.ownBlock)) es vs ∧ Below w0.heap.size w0 W
theorem own_lt {W : World} {B : Nat} {T : TypeId} {z n : Nat} {v : Value} {vs : List Value} (h : W.ownsRow B T z v n vs) : ∀ g, v.ownBlock = some g → B ≤ g ∧ g < W.heap.size := fun g hg => by
  rcases h.2 with ⟨rfl, _⟩ | ⟨g', cap, cur, rfl, hb, hgb, _⟩
  · simp [Value.ownBlock] at hg
  · have : g' = g := by simpa [Value.ownBlock] using hg
    subst this
    exact ⟨hb, (Array.getElem?_eq_some_iff.1 hgb).1⟩
theorem own_below {W W' : World} {B : Nat} {T : TypeId} {z n : Nat} {v : Value} {vs : List Value} (h : W.ownsRow B T z v n vs) (hb : Below W.heap.size W W') : W'.ownsRow B T z v n vs := by
  refine ⟨h.1, ?_⟩
  rcases h.2 with h2 | ⟨g, cap, cur, hv, hg, hh, r⟩
  · exact Or.inl h2
  · exact Or.inr ⟨g, cap, cur, hv, hg, by rw [hb.block g (Array.getElem?_eq_some_iff.1 hh).1]; exact hh, r⟩
section
variable {α : Type} {K : Kd α} {T : TypeId} {w0 W W' : World} {v : Value} {es : List α}
theorem GrowG.start (K : Kd α) (T : TypeId) (w0 : World) : GrowG K T w0 (.slice none 0 0) [] w0 := ⟨[], World.ownsRow_nil _ _ _ _, K.nil _, Below.refl _ _⟩
theorem GrowG.bel (h : GrowG K T w0 v es W) : Below w0.heap.size w0 W := h.choose_spec.2.2
theorem GrowG.step (h : GrowG K T w0 v es W) (hb : Below W.heap.size W W') : GrowG K T w0 v es W' := by
  obtain ⟨vs, h1, h2, h3⟩ := h
  exact ⟨vs, own_below h1 hb, K.ls (frO_below _ _ hb) h2, bth5 h3 hb⟩
end

/-- The same, from block B on; nothing is said of what stood before. -/
def GrowB {α : Type} (K : Kd α) (T : TypeId) (B : Nat) (v : Value) (es : List α) (W : World) : Prop :=
  ∃ vs, W.ownsRow B T K.z v es.length vs ∧ K.L (only W (frO B v.ownBlock)) es vs
section
variable {α : Type} {K : Kd α} {T : TypeId} {w0 W W' : World} {v : Value} {es : List α} {B : Nat}
theorem GrowG.b (h : GrowG K T w0 v es W) : GrowB K T w0.heap.size v es W := let ⟨vs, h1, h2, _⟩ := h; ⟨vs, h1, h2⟩
theorem GrowB.start (K : Kd α) (T : TypeId) (B : Nat) (W : World) : GrowB K T B (.slice none 0 0) [] W := ⟨[], World.ownsRow_nil _ _ _ _, K.nil _⟩
theorem GrowB.step (h : GrowB K T B v es W) (hb : Below W.heap.size W W') : GrowB K T B v es W' := by
  obtain ⟨vs, h1, h2⟩ := h
  exact ⟨vs, own_below h1 hb, K.ls (frO_below _ _ hb) h2⟩
/-- What lies before is written. -/
theorem GrowB.set (h : GrowB K T B v es W) {p : Addr} (hp : p.block < B) (u : Value) : GrowB K T B v es (W.setCell p u) := by
  obtain ⟨vs, h1, h2⟩ := h
  refine ⟨vs, ?_, K.ls (Sub.only_of (by simp [World.setCell]) fun q x hq hx => ⟨?_, hq⟩) h2⟩
  · refine ⟨h1.1, ?_⟩
    rcases h1.2 with h2 | ⟨g, cap, cur, hv, hg, hh, r⟩
    · exact Or.inl h2
    · exact Or.inr ⟨g, cap, cur, hv, hg, by rw [Below.heap_setCell _ _ _ g (by omega)]; exact hh, r⟩
  · rw [World.cell?_setCell_other _ _ _ _ ?_]
    · exact hx
    · rintro rfl
      unfold frO at hq
      simp at hq
      omega
/-- One more. -/
theorem GrowB.push {P : Program} {S ty : TypeId} {i : TypeInfo} {z : Value} {bytes : Nat} (h : GrowB K T B v es W) (hB : B ≤ W.heap.size) (hb : Below W.heap.size W W') {e : α} {cs : List Value} (hc : K.C (only W' (frB W.heap.size)) e cs)
    (ht : P.underlying S = some (.slice T)) (hi : P.info? T = some i) (hz : i.zero = some z) (hsize : i.size = K.z) (hby : i.bytes = bytes) (hzs : z.cells.size = K.z) (hbs : bytes ≤ 1000) (hlen : es.length ≤ 1000000000) :
    ∃ g cap w3, (Builtin.append_ #[S, S] ty #[v, .slice (some ⟨W'.heap.size, 0, none⟩) 1 1]).run P (W'.alloc (.cells cs.toArray T)) = .ok (.slice (some ⟨g, 0, none⟩) (es.length + 1) cap) w3 ∧ GrowB K T B (.slice (some ⟨g, 0, none⟩) (es.length + 1) cap) (es ++ [e]) w3
      ∧ (W'.alloc (.cells cs.toArray T)).grownBy w3 v.ownBlock := by
  obtain ⟨vs, h1, h2⟩ := h.step hb
  obtain ⟨vs0, k1, -⟩ := h
  have hold := own_lt k1
  have hsz := hb.size
  have hnew : ∀ j u, cs[j]? = some u → (W'.alloc (.cells cs.toArray T)).cell? ((⟨W'.heap.size, 0, none⟩ : Addr).add j) = some u := fun j u hu => by
    rw [add_at, Nat.zero_add, cell_of_row _ _ j cs.toArray T (0, 0) (heap_alloc_new W' _)]
    simpa using hu
  obtain ⟨v', w3, hrun, hown, hgrow, _, hat⟩ := run_append_own_at (P := P) (W'.alloc (.cells cs.toArray T)) B S ty T i z K.z bytes ht hi hz hsize hby hzs K.z0 v es.length vs (own_below h1 (bnew5 _ _)) ⟨W'.heap.size, 0, none⟩ 1 1 cs (by rw [K.cl hc]; omega) hnew (K.co hc) (by unfold maxLen; omega) (by
      have : (es.length + 1) * bytes ≤ 1000000001 * 1000 := Nat.mul_le_mul (by omega) hbs
      omega) (by simp; omega)
  obtain ⟨g, cap, rfl⟩ := ownsRow_succ hown
  refine ⟨g, cap, w3, hrun, ⟨vs ++ cs, by simpa using hown, K.sn (K.ls (Sub.trans (frO_alloc _ _ _) (frO_grown hgrow hat)) h2) (K.cs ?_ hc)⟩, hgrow⟩
  exact Sub.trans (fr_beside (W0 := W) hB fun g hg => (hold g hg).2) (Sub.trans (frO_alloc _ _ _) (frO_grown hgrow hat))
/-- The row, at the end. -/
theorem GrowB.row (h : GrowB K T B v es W) : ∃ A c, v = .slice A es.length c ∧ K.R (only W (frB B)) A es := by
  obtain ⟨vs, h1, h2⟩ := h
  rcases h1.2 with ⟨rfl, h0⟩ | ⟨g, cap, cur, rfl, hb, hgb, hl, hc, hm, rfl⟩
  · have : es = [] := List.eq_nil_of_length_eq_zero h0
    subst this
    exact ⟨none, 0, rfl, K.r0 _ _⟩
  · refine ⟨some ⟨g, 0, none⟩, cap, rfl, K.rc (K.ls (frO_frB _ _ _) h2) fun j u hu => ?_⟩
    refine only_cell_mk ?_ (by unfold frB; simpa using hb)
    rw [cell_of_row _ _ j _ _ _ hgb]
    rw [List.getElem?_take] at hu
    split at hu
    · simpa using hu
    · cases hu
theorem GrowB.other (h : GrowB K T B v es W) {b : Nat} (hb : W.heap.size ≤ b ∨ b < B) : v.ownBlock ≠ some b := fun e => by
  obtain ⟨vs, h1, -⟩ := h
  have := own_lt h1 b e
  omega
theorem GrowG.push {P : Program} {S ty : TypeId} {i : TypeInfo} {z : Value} {bytes : Nat} (h : GrowG K T w0 v es W) (hb : Below W.heap.size W W') {e : α} {cs : List Value} (hc : K.C (only W' (frB W.heap.size)) e cs)
    (ht : P.underlying S = some (.slice T)) (hi : P.info? T = some i) (hz : i.zero = some z) (hsize : i.size = K.z) (hby : i.bytes = bytes) (hzs : z.cells.size = K.z) (hbs : bytes ≤ 1000) (hlen : es.length ≤ 1000000000) :
    ∃ g cap w3, (Builtin.append_ #[S, S] ty #[v, .slice (some ⟨W'.heap.size, 0, none⟩) 1 1]).run P (W'.alloc (.cells cs.toArray T)) = .ok (.slice (some ⟨g, 0, none⟩) (es.length + 1) cap) w3 ∧ GrowG K T w0 (.slice (some ⟨g, 0, none⟩) (es.length + 1) cap) (es ++ [e]) w3
      ∧ (W'.alloc (.cells cs.toArray T)).grownBy w3 v.ownBlock := by
  obtain ⟨g, cap, w3, h1, ⟨vs, h2, h4⟩, h3⟩ := h.b.push h.bel.size hb hc ht hi hz hsize hby hzs hbs hlen
  have h5 := bth5 h.bel hb
  exact ⟨g, cap, w3, h1, ⟨vs, h2, h4, (h5.alloc h5.size _).grown h3 (by have := h5.size; simp; omega) fun g hg => let ⟨_, k1, _⟩ := h.b; (own_lt k1 g hg).1⟩, h3⟩
theorem GrowG.row (h : GrowG K T w0 v es W) : ∃ A c, v = .slice A es.length c ∧ K.R (only W (frB w0.heap.size)) A es := h.b.row
end
end

section
open Go.RowKit

set_option maxHeartbeats 400000 in
theorem docsPos (l c : Int) (w : World) : Calls Tryd.prog 51 #[.agg #[.int .i64 l, .int .i64 c]] w fun e w' => e = .returned (.agg #[.int .i64 l, .int .i64 c]) ∧ Below w.heap.size w w' := by
  go_enter Tryd.func51, Tryd.ntmps51
  go_wp2_with fail
  refine bodyPost_ret (v := .agg #[.int .i64 l, .int .i64 c]) (by simp [results, Tryd.results51, go_sem]) rfl ?_
  exact ⟨rfl, by first | exact (((Below.refl _ _).alloc (Nat.le_refl _) _).alloc (by simp) _) | exact ((((Below.refl _ _).alloc (Nat.le_refl _) _).alloc (by simp) _).setCell (by simp) _).setCell (by simp) _⟩

theorem info_rexpr : (Tryd.prog.info? 72).map (fun i => (i.zero, i.size, i.bytes)) = some (some (.agg #[.int .i64 0, .int .i64 0, .string ⟨#[]⟩, .int .i64 0, .slice none 0 0, .int .i64 0, .int .i64 0]), 7, 80) := by kernel_rfl
theorem Box.frz7 {W : World} {g : Nat} {v0 v1 v2 v3 v4 v5 v6 : Value} (h : Box W g [v0, v1, v2, v3, v4, v5, v6]) : W.frozen? ⟨g, 0, none⟩ = false ∧ W.frozen? ⟨g, 1, none⟩ = false ∧ W.frozen? ⟨g, 2, none⟩ = false ∧ W.frozen? ⟨g, 3, none⟩ = false ∧ W.frozen? ⟨g, 4, none⟩ = false ∧ W.frozen? ⟨g, 5, none⟩ = false ∧ W.frozen? ⟨g, 6, none⟩ = false := ⟨(h 0 _ rfl).2, (h 1 _ rfl).2, (h 2 _ rfl).2, (h 3 _ rfl).2, (h 4 _ rfl).2, (h 5 _ rfl).2, (h 6 _ rfl).2⟩
theorem Box.far7 {W : World} {g b : Nat} {vs : List Value} (h : Box W g vs) (hp : b ≠ g) (v0 v1 v2 v3 v4 v5 v6 : Value) : Box (((((((W.setCell ⟨b, 0, none⟩ v0).setCell ⟨b, 1, none⟩ v1).setCell ⟨b, 2, none⟩ v2).setCell ⟨b, 3, none⟩ v3).setCell ⟨b, 4, none⟩ v4).setCell ⟨b, 5, none⟩ v5).setCell ⟨b, 6, none⟩ v6) g vs :=
  ((((((h.far hp _).far hp _).far hp _).far hp _).far hp _).far hp _).far hp _
theorem frB_set7 (W : World) {B b : Nat} (v0 v1 v2 v3 v4 v5 v6 : Value) (h : b < B) : Sub (only W (frB B)) (only (((((((W.setCell ⟨b, 0, none⟩ v0).setCell ⟨b, 1, none⟩ v1).setCell ⟨b, 2, none⟩ v2).setCell ⟨b, 3, none⟩ v3).setCell ⟨b, 4, none⟩ v4).setCell ⟨b, 5, none⟩ v5).setCell ⟨b, 6, none⟩ v6) (frB B)) :=
  ((((((frB_set W v0 h).trans (frB_set _ v1 h)).trans (frB_set _ v2 h)).trans (frB_set _ v3 h)).trans (frB_set _ v4 h)).trans (frB_set _ v5 h)).trans (frB_set _ v6 h)
theorem below_set1 {w W : World} {B b o : Nat} {v : Value} (hb : Below B w W) (h : B ≤ b) : Below B w (W.setCell ⟨b, o, none⟩ v) := hb.setCell h v
theorem below_set7 {w W : World} {B b : Nat} (hb : Below B w W) (v0 v1 v2 v3 v4 v5 v6 : Value) (h : B ≤ b) : Below B w (((((((W.setCell ⟨b, 0, none⟩ v0).setCell ⟨b, 1, none⟩ v1).setCell ⟨b, 2, none⟩ v2).setCell ⟨b, 3, none⟩ v3).setCell ⟨b, 4, none⟩ v4).setCell ⟨b, 5, none⟩ v5).setCell ⟨b, 6, none⟩ v6) :=
  below_set1 (below_set1 (below_set1 (below_set1 (below_set1 (below_set1 (below_set1 hb h) h) h) h) h) h) h

/-- What a copy of a row answers: one of the same trees, in memory of its own. -/
def CopyX (es : List XV) (w : World) (r : Ending) (w' : World) : Prop := ∃ A' c', r = .returned (.slice A' es.length c') ∧ XR (only w' (frB w.heap.size)) A' es ∧ Below w.heap.size w w'

set_option maxHeartbeats 4000000 in
theorem docsExprOf (k n : Int) (x : List UInt8) (o : Int) (gs : List XV) (l cc : Int) (A : Option Addr) (c : Nat) (w : World) (hx : XR w A gs)
    (hq : ∀ W, XR W A gs → Calls Tryd.prog 83 #[.slice A gs.length c] W (CopyX gs W)) :
    Calls Tryd.prog 43 #[.agg #[.int .i64 k, .int .i64 n, .string ⟨x.toArray⟩, .int .i64 o, .slice A gs.length c, .int .i64 l, .int .i64 cc]] w fun r w' => ∃ A' c', r = .returned (.agg #[.int .i64 k, .int .i64 n, .string ⟨x.toArray⟩, .int .i64 o, .slice A' gs.length c', .int .i64 l, .int .i64 cc]) ∧ XR (only w' (frB w.heap.size)) A' gs ∧ Below w.heap.size w w' := by
  obtain ⟨m, hm⟩ : ∃ m, m = gs.length := ⟨_, rfl⟩
  unfold CopyX at hq
  rw [← hm] at hq ⊢
  clear hm
  have h0 := bnew5 w (.cells #[.int .i64 k, .int .i64 n, .string ⟨x.toArray⟩, .int .i64 o, .slice A m c, .int .i64 l, .int .i64 cc] 66)
  have h1 := bnew5 (w.alloc (.cells #[.int .i64 k, .int .i64 n, .string ⟨x.toArray⟩, .int .i64 o, .slice A m c, .int .i64 l, .int .i64 cc] 66)) (.cells #[.int .i64 0, .int .i64 0, .string ⟨#[]⟩, .int .i64 0, .slice none 0 0, .int .i64 0, .int .i64 0] 72)
  have ha : Box ((w.alloc (.cells #[.int .i64 k, .int .i64 n, .string ⟨x.toArray⟩, .int .i64 o, .slice A m c, .int .i64 l, .int .i64 cc] 66)).alloc (.cells #[.int .i64 0, .int .i64 0, .string ⟨#[]⟩, .int .i64 0, .slice none 0 0, .int .i64 0, .int .i64 0] 72)) w.heap.size [.int .i64 k, .int .i64 n, .string ⟨x.toArray⟩, .int .i64 o, .slice A m c, .int .i64 l, .int .i64 cc] := (Box.new w _ _).step h1
  have hb : Box ((w.alloc (.cells #[.int .i64 k, .int .i64 n, .string ⟨x.toArray⟩, .int .i64 o, .slice A m c, .int .i64 l, .int .i64 cc] 66)).alloc (.cells #[.int .i64 0, .int .i64 0, .string ⟨#[]⟩, .int .i64 0, .slice none 0 0, .int .i64 0, .int .i64 0] 72)) (w.heap.size + 1) [.int .i64 0, .int .i64 0, .string ⟨#[]⟩, .int .i64 0, .slice none 0 0, .int .i64 0, .int .i64 0] := by
    have := Box.new (w.alloc (.cells #[.int .i64 k, .int .i64 n, .string ⟨x.toArray⟩, .int .i64 o, .slice A m c, .int .i64 l, .int .i64 cc] 66)) [.int .i64 0, .int .i64 0, .string ⟨#[]⟩, .int .i64 0, .slice none 0 0, .int .i64 0, .int .i64 0] 72
    rw [show (w.alloc (.cells #[.int .i64 k, .int .i64 n, .string ⟨x.toArray⟩, .int .i64 o, .slice A m c, .int .i64 l, .int .i64 cc] 66)).heap.size = w.heap.size + 1 by simp] at this
    exact this
  have hbw := bth5 h0 h1
  have hsz : ((w.alloc (.cells #[.int .i64 k, .int .i64 n, .string ⟨x.toArray⟩, .int .i64 o, .slice A m c, .int .i64 l, .int .i64 cc] 66)).alloc (.cells #[.int .i64 0, .int .i64 0, .string ⟨#[]⟩, .int .i64 0, .slice none 0 0, .int .i64 0, .int .i64 0] 72)).heap.size = w.heap.size + 1 + 1 := by simp
  clear h0 h1
  go_enter Tryd.func43, Tryd.ntmps43
  go_wp2_with fail
  generalize (w.alloc (.cells #[.int .i64 k, .int .i64 n, .string ⟨x.toArray⟩, .int .i64 o, .slice A m c, .int .i64 l, .int .i64 cc] 66)).alloc (.cells #[.int .i64 0, .int .i64 0, .string ⟨#[]⟩, .int .i64 0, .slice none 0 0, .int .i64 0, .int .i64 0] 72) = W at *
  have q1 := hq W.drew ((hx.step hbw).step (Below.refl _ _).drew)
  have q2 := fun W => docsPos l cc W
  have s0 := ha.drew.seven
  have hbd := hbw.drew
  have hsd : Hid (W.drew.heap.size = w.heap.size + 1 + 1) := by show _ = _; simpa using hsz
  have ha0 := Lib.hid ha.drew
  have hb0 := Lib.hid hb.drew
  clear ha hb hbw hq hsz hx
  go_region_held3 (fun w' => w'.cell? ⟨w.heap.size, 0, none⟩ = some (.int .i64 k) ∧ w'.cell? ⟨w.heap.size, 1, none⟩ = some (.int .i64 n) ∧ w'.cell? ⟨w.heap.size, 2, none⟩ = some (.string ⟨x.toArray⟩) ∧ w'.cell? ⟨w.heap.size, 3, none⟩ = some (.int .i64 o) ∧ w'.cell? ⟨w.heap.size, 4, none⟩ = some (.slice A m c) ∧ w'.cell? ⟨w.heap.size, 5, none⟩ = some (.int .i64 l) ∧ w'.cell? ⟨w.heap.size, 6, none⟩ = some (.int .i64 cc)) (first | with_reducible exact s0 | with_reducible exact s1 | with_reducible exact s2 | with_reducible exact s3)
    (first
      | (go_at_call 83
         with_reducible refine q1.mono ?_
         rintro e w1 ⟨A', c', rfl, hx1, hb1⟩
         have ha1 := Lib.hid (ha0.out.step hb1)
         have hb1r := Lib.hid (hb0.out.step hb1)
         have s1 := ha1.out.seven
         have hbw1 := bth5 hbd hb1
         have hx1 := Lib.hid (hx1.sub (frB_mono (Nat.le_of_eq hsd.out.symm))))
      | (go_at_call 51
         with_reducible refine (q2 _).mono ?_
         rintro e w2 ⟨rfl, hb2⟩
         have ha2 := Lib.hid (ha1.out.step hb2)
         have hr2 := hb1r.out.step hb2
         have s2 := ha2.out.seven
         have s3 := (ha2.out.far7 (b := w.heap.size + 1) (by omega) (.int .i64 k) (.int .i64 n) (.string ⟨x.toArray⟩) (.int .i64 o) (.slice A' m c') (.int .i64 l) (.int .i64 cc)).seven
         have c0 := hr2.seven
         have f0 := hr2.frz7
         have hx2 := Lib.hid (hx1.out.sub (fr_below _ hb2))
         have hbw2 := Lib.hid (bth5 hbw1 hb2)))
  all_goals
    (obtain ⟨c0, c1, c2, c3, c4, c5, c6⟩ := c0
     obtain ⟨f0, f1, f2, f3, f4, f5, f6⟩ := f0
     go_wp2_with fail
     refine bodyPost_ret (v := .agg #[.int .i64 k, .int .i64 n, .string ⟨x.toArray⟩, .int .i64 o, .slice A' m c', .int .i64 l, .int .i64 cc]) (by simp [results, Tryd.results43, go_sem, c0, c1, c2, c3, c4, c5, c6]) rfl ?_
     exact ⟨A', c', rfl, hx2.out.sub ((frB_set7 w2 _ _ _ _ _ _ _ (by omega)).trans (frB_mono (by omega))), below_set7 hbw2.out _ _ _ _ _ _ _ (by omega)⟩)
theorem pushX {w0 W W' : World} {v : Value} {es : List XV} (h : GrowG kdX 72 w0 v es W) (hb : Below W.heap.size W W') {e : XV} {cs : List Value} (hc : XC (only W' (frB W.heap.size)) e cs) (hlen : es.length ≤ 1000000000) :
    ∃ g cap w3, (Builtin.append_ #[69, 69] 69 #[v, .slice (some ⟨W'.heap.size, 0, none⟩) 1 1]).run Tryd.prog (W'.alloc (.cells cs.toArray 72)) = .ok (.slice (some ⟨g, 0, none⟩) (es.length + 1) cap) w3 ∧ GrowG kdX 72 w0 (.slice (some ⟨g, 0, none⟩) (es.length + 1) cap) (es ++ [e]) w3 := by
  obtain ⟨i0, hi, hz0, hz1, hz2⟩ := info_parts info_rexpr
  obtain ⟨g, cap, w3, h1, h2, -⟩ := h.push (P := Tryd.prog) (S := 69) (ty := 69) hb hc Tryd.underlying69 hi hz0 hz1 hz2 rfl (by omega) hlen
  exact ⟨g, cap, w3, h1, h2⟩

set_option maxHeartbeats 4000000 in
theorem docsExprs (N : Nat) : ∀ (es : List XV), xsz es ≤ N → N ≤ 4000000 → ∀ (A : Option Addr) (c : Nat) (w : World), XR w A es → Calls Tryd.prog 83 #[.slice A es.length c] w (CopyX es w) := by
  induction N using Nat.strongRecOn with
  | ind N ih =>
  intro es hN hNN A c w hx
  have hlen := xsz_len es
  obtain ⟨n, hn⟩ : ∃ n, n = es.length := ⟨_, rfl⟩
  have hx2 := Lib.hid hx
  unfold CopyX
  have hfin : Hid (∀ v W, GrowG kdX 72 w v (es.take n) W → ∃ A' c', v = .slice A' n c' ∧ XR (only W (frB w.heap.size)) A' es ∧ Below w.heap.size w W) := fun v W h => by
    rw [hn, List.take_length] at h
    obtain ⟨A', c', h1, h2⟩ := h.row
    exact ⟨A', c', by rw [hn]; exact h1, h2, h.bel⟩
  rw [← hn]
  rw [← hn] at hlen
  have HN := Lib.hid hn
  clear hn hx
  go_enter Tryd.func83, Tryd.ntmps83
  go_wp2_with fail
  go_loopw [3, 4] (fun v u W => ∃ i : Nat, i ≤ n ∧ u = .int .i64 i ∧ Hid (GrowG kdX 72 w v (es.take i) W)) (fun _ u _ => n - (intOf u).toNat)
  case atStart => exact ⟨0, by omega, rfl, GrowG.start kdX _ _⟩
  case round =>
    obtain ⟨i, hi, rfl, hg⟩ := hrel
    by_cases hlt : i < n
    · have hlt' : (i : Int) < n := by omega
      have hgb := Lib.hid hg.out.bel
      obtain ⟨ad, e, rfl, he, A', c', e0, e1, e2, e3, e4, e5, e6, hx'⟩ := (hx2.out.step hgb.out).el (i := i) (by rw [← HN.out]; exact hlt)
      have hsz := xsz_get he
      have hHE : Hid (es.take (i + 1) = es.take i ++ [e]) := by show _ = _; rw [List.take_add_one, he]; rfl
      cases e with
      | mk k nn x o gs l cc =>
      rw [xsz1_eq] at hsz
      simp only [XV.k, XV.n, XV.x, XV.o, XV.gs, XV.l, XV.c] at *
      have q := docsExprOf k nn x o gs l cc A' c' wr hx' (fun W hW => ih (xsz gs) (by omega) gs (Nat.le_refl _) (by omega) A' c' W hW)
      have hli : Hid ((es.take i).length = i) := by show _ = _; rw [List.length_take, ← HN.out]; omega
      have HC : Hid (∀ W A c, XR W A gs → XC W (.mk k nn x o gs l cc) [.int .i64 k, .int .i64 nn, .string ⟨x.toArray⟩, .int .i64 o, .slice A gs.length c, .int .i64 l, .int .i64 cc]) := fun W A c h => by unfold XC; exact ⟨A, c, rfl, h⟩
      clear he hx' hsz
      have hm63 : gs.length ≤ gs.length := Nat.le_refl _
      generalize gs.length = m at *
      generalize (⟨x.toArray⟩ : ByteArray) = xs at *
      go_wp2_with fail
      refine q.mono ?_
      rintro e1 w1 ⟨A2, c2, rfl, hx2', hb2⟩
      obtain ⟨g, cap, w3, hrun, hg3⟩ := pushX hg.out hb2 (HC.out _ _ c2 hx2') (by rw [hli.out]; omega)
      rw [hli.out] at hrun hg3
      have hg3 := Lib.hid hg3
      clear hx2' hg q HC e0 e1 e2 e3 e4 e5 e6
      go_wp2_with (first
        | (at_builtin
           refine wpList_append_run rfl (.tmp 11) (.tmp 17) _ rfl _ _ _ w3 rfl rfl hrun ?_
           clear hrun))
      exact ⟨⟨i + 1, by omega, by go_num, by rw [hHE.out]; exact hg3.out⟩, by simp [intOf]; omega⟩
    · obtain rfl : i = n := by omega
      have hlt' : ¬ (i : Int) < i := by omega
      obtain ⟨A', c', rfl, h2, h3⟩ := hfin.out _ _ hg.out
      have h23 := Lib.hid (And.intro h2 h3)
      clear h2 h3 hg
      go_wp2_with fail
      go_ret
      exact ⟨A', ⟨c', rfl⟩, h23.out.1, h23.out.2⟩
end

section
open Go.RowKit

theorem Box.grown6 {W W' : World} {row : Option Nat} {g : Nat} {vs : List Value} (h : Box W g vs) (hg : W.grownBy W' row) (hne : row ≠ some g) : Box W' g vs := fun i v hv => by
  obtain ⟨h1, h2⟩ := h i v hv
  have hlt := World.block_lt_of_cell? W ⟨g, i, none⟩ h1
  have hb := hg.block g hlt (fun e => hne e.symm)
  refine ⟨(World.cell?_of_block hb).trans h1, ?_⟩
  rw [← h2]
  unfold World.frozen?
  rw [hb]
theorem info_rstmt : (Tryd.prog.info? 118).map (fun i => (i.zero, i.size, i.bytes)) = some (some (.agg #[.int .i64 0, .string ⟨#[]⟩, .slice none 0 0, .slice none 0 0, .slice none 0 0, .int .i64 0, .int .i64 0]), 7, 112) := by kernel_rfl
theorem GrowG.other {α : Type} {K : Kd α} {T : TypeId} {w0 W : World} {v : Value} {es : List α} (h : GrowG K T w0 v es W) {b : Nat} (hb : W.heap.size ≤ b) : v.ownBlock ≠ some b := fun e => by
  obtain ⟨vs, h1, -, -⟩ := h
  have := (own_lt h1 b e).2
  omega
theorem pushS {w0 W W' : World} {v : Value} {es : List SV} (h : GrowG kdS 118 w0 v es W) (hb : Below W.heap.size W W') {e : SV} {cs : List Value} (hc : SC (only W' (frB W.heap.size)) e cs) (hlen : es.length ≤ 1000000000) :
    ∃ g cap w3, (Builtin.append_ #[44, 44] 44 #[v, .slice (some ⟨W'.heap.size, 0, none⟩) 1 1]).run Tryd.prog (W'.alloc (.cells cs.toArray 118)) = .ok (.slice (some ⟨g, 0, none⟩) (es.length + 1) cap) w3 ∧ GrowG kdS 118 w0 (.slice (some ⟨g, 0, none⟩) (es.length + 1) cap) (es ++ [e]) w3
      ∧ (∀ b vs, W.heap.size ≤ b → Box W' b vs → Box w3 b vs) := by
  obtain ⟨i0, hi, hz0, hz1, hz2⟩ := info_parts info_rstmt
  obtain ⟨g, cap, w3, h1, h2, h3⟩ := h.push (P := Tryd.prog) (S := 44) (ty := 44) hb hc Tryd.underlying44 hi hz0 hz1 hz2 rfl (by omega) hlen
  exact ⟨g, cap, w3, h1, h2, fun b vs hbl hbx => (hbx.step (bnew5 _ _)).grown6 h3 (h.other hbl)⟩

/-- What a copy of statements answers. -/
def CopyS (es : List SV) (w : World) (r : Ending) (w' : World) : Prop := ∃ A' c', r = .returned (.slice A' es.length c') ∧ SR (only w' (frB w.heap.size)) A' es ∧ Below w.heap.size w w'

set_option maxRecDepth 100000 in
set_option maxHeartbeats 8000000 in
theorem docsStmts (N : Nat) : ∀ (es : List SV), ssz es ≤ N → N ≤ 4000000 → ∀ (A : Option Addr) (c : Nat) (w : World), SR w A es → Calls Tryd.prog 50 #[.slice A es.length c] w (CopyS es w) := by
  induction N using Nat.strongRecOn with
  | ind N ih =>
  intro es hN hNN A c w hx
  have hlen := ssz_len es
  obtain ⟨n, hn⟩ : ∃ n, n = es.length := ⟨_, rfl⟩
  have hx2 := Lib.hid hx
  unfold CopyS
  have hfin : Hid (∀ v W, GrowG kdS 118 w v (es.take n) W → ∃ A' c', v = .slice A' n c' ∧ SR (only W (frB w.heap.size)) A' es ∧ Below w.heap.size w W) := fun v W h => by
    rw [hn, List.take_length] at h
    obtain ⟨A', c', h1, h2⟩ := h.row
    exact ⟨A', c', by rw [hn]; exact h1, h2, h.bel⟩
  rw [← hn]
  rw [← hn] at hlen
  have HN := Lib.hid hn
  clear hn hx
  go_enter Tryd.func50, Tryd.ntmps50
  go_wp2_with fail
  go_loopw [3, 4] (fun v u W => ∃ i : Nat, i ≤ n ∧ u = .int .i64 i ∧ Hid (GrowG kdS 118 w v (es.take i) W)) (fun _ u _ => n - (intOf u).toNat)
  case atStart => exact ⟨0, by omega, rfl, GrowG.start kdS _ _⟩
  case round =>
    obtain ⟨i, hi, rfl, hg⟩ := hrel
    by_cases hlt : i < n
    · have hlt' : (i : Int) < n := by omega
      have hgb := Lib.hid hg.out.bel
      obtain ⟨ad, e, rfl, he, A1, c1, A2, c2, A3, c3, e0, e1, e2, e3, e4, e5, e6, hx', ht', hu'⟩ := (hx2.out.step hgb.out).el (i := i) (by rw [← HN.out]; exact hlt)
      have hsz := ssz_get he
      have hHE : Hid (es.take (i + 1) = es.take i ++ [e]) := by show _ = _; rw [List.take_add_one, he]; rfl
      cases e with
      | mk k x gs ts us l cc =>
      rw [ssz1_eq] at hsz
      simp only [SV.k, SV.x, SV.es, SV.ts, SV.us, SV.l, SV.c] at *
      have hV := bnew5 wr (.cells #[.int .i64 k, .string ⟨x.toArray⟩, .slice A1 gs.length c1, .slice A2 ts.length c2, .slice A3 us.length c3, .int .i64 l, .int .i64 cc] 62)
      have hVs : (wr.alloc (.cells #[.int .i64 k, .string ⟨x.toArray⟩, .slice A1 gs.length c1, .slice A2 ts.length c2, .slice A3 us.length c3, .int .i64 l, .int .i64 cc] 62)).drew.heap.size = wr.heap.size + 1 := by simp
      have ha := Box.new wr [.int .i64 k, .string ⟨x.toArray⟩, .slice A1 gs.length c1, .slice A2 ts.length c2, .slice A3 us.length c3, .int .i64 l, .int .i64 cc] 62
      have q1 := docsExprs (xsz gs) gs (Nat.le_refl _) (by omega) A1 c1 (wr.alloc (.cells #[.int .i64 k, .string ⟨x.toArray⟩, .slice A1 gs.length c1, .slice A2 ts.length c2, .slice A3 us.length c3, .int .i64 l, .int .i64 cc] 62)).drew (hx'.step hV.drew)
      have q2 := Lib.hid (fun W h => ih (ssz ts) (by omega) ts (Nat.le_refl _) (by omega) A2 c2 W h)
      have q3 := Lib.hid (fun W h => ih (ssz us) (by omega) us (Nat.le_refl _) (by omega) A3 c3 W h)
      have q4 := fun W => docsPos l cc W
      have hVd := hV.drew
      have ht2 := Lib.hid (ht'.step hVd)
      have hu2 := Lib.hid (hu'.step hVd)
      have hli : Hid ((es.take i).length = i) := by show _ = _; rw [List.length_take, ← HN.out]; omega
      have HC : Hid (∀ W B1 d1 B2 d2 B3 d3, XR W B1 gs → SR W B2 ts → SR W B3 us → SC W (.mk k x gs ts us l cc) [.int .i64 k, .string ⟨x.toArray⟩, .slice B1 gs.length d1, .slice B2 ts.length d2, .slice B3 us.length d3, .int .i64 l, .int .i64 cc]) := fun W B1 d1 B2 d2 B3 d3 h1 h2 h3 => by unfold SC; exact ⟨B1, d1, B2, d2, B3, d3, rfl, h1, h2, h3⟩
      clear he hx' ht' hu' hsz hV
      unfold CopyX at q1
      unfold CopyS at q2 q3
      generalize gs.length = m1 at *
      generalize ts.length = m2 at *
      generalize us.length = m3 at *
      generalize (⟨x.toArray⟩ : ByteArray) = xs at *
      go_wp2_with fail
      generalize wr.alloc (.cells #[.int .i64 k, .string xs, .slice A1 m1 c1, .slice A2 m2 c2, .slice A3 m3 c3, .int .i64 l, .int .i64 cc] 62) = V at *
      have s0 := ha.drew.seven
      have ha0 := Lib.hid ha.drew
      have hVs := Lib.hid hVs
      have hVd := Lib.hid hVd
      clear ha e0 e1 e2 e3 e4 e5 e6
      go_region_held3 (fun w' => w'.cell? ⟨wr.heap.size, 0, none⟩ = some (.int .i64 k) ∧ w'.cell? ⟨wr.heap.size, 1, none⟩ = some (.string xs) ∧ w'.cell? ⟨wr.heap.size, 2, none⟩ = some (.slice A1 m1 c1) ∧ w'.cell? ⟨wr.heap.size, 3, none⟩ = some (.slice A2 m2 c2) ∧ w'.cell? ⟨wr.heap.size, 4, none⟩ = some (.slice A3 m3 c3) ∧ w'.cell? ⟨wr.heap.size, 5, none⟩ = some (.int .i64 l) ∧ w'.cell? ⟨wr.heap.size, 6, none⟩ = some (.int .i64 cc)) (first | with_reducible exact s0 | with_reducible exact s1 | with_reducible exact s2 | with_reducible exact s3 | with_reducible exact s4 | with_reducible exact s5 | with_reducible exact s6)
        (first
          | (go_at_call 83
             with_reducible refine q1.mono ?_
             rintro e w1 ⟨B1, d1, rfl, hx1, hb1⟩
             have ha1 := Lib.hid (ha0.out.step hb1)
             have s1 := ha1.out.seven
             have hv1 := Lib.hid (hVd.out.trans (hb1.mono hVd.out.size))
             have hx1 := Lib.hid (hx1.sub (frB_mono (by rw [hVs.out]; omega : wr.heap.size ≤ _)))
             have hu3 := Lib.hid (hu2.out.step hb1)
             have q2' := q2.out w1 (ht2.out.step hb1))
          | (go_at_call 50
             with_reducible refine q2'.mono ?_
             rintro e w2 ⟨B2, d2, rfl, ht1, hb2⟩
             have ha2 := Lib.hid (ha1.out.step hb2)
             have s2 := ha2.out.seven
             have hs1 := hv1.out.size
             have hv2 := Lib.hid (hv1.out.trans (hb2.mono hv1.out.size))
             have hx1 := Lib.hid (hx1.out.sub (fr_below _ hb2))
             have ht1 := Lib.hid (ht1.sub (frB_mono hs1))
             have q3' := q3.out w2 (hu3.out.step hb2))
          | (go_at_call 50
             with_reducible refine q3'.mono ?_
             rintro e w3 ⟨B3, d3, rfl, hu1, hb3⟩
             have ha3 := Lib.hid (ha2.out.step hb3)
             have s3 := ha3.out.seven
             have hs2 := hv2.out.size
             have hv3 := Lib.hid (hv2.out.trans (hb3.mono hv2.out.size))
             have hx1 := Lib.hid (hx1.out.sub (fr_below _ hb3))
             have ht1 := Lib.hid (ht1.out.sub (fr_below _ hb3))
             have hu1 := Lib.hid (hu1.sub (frB_mono hs2)))
          | (go_at_call 51
             with_reducible refine (q4 _).mono ?_
             rintro e w4 ⟨rfl, hb4⟩
             have ha4 := Lib.hid (ha3.out.step hb4)
             have s4 := ha4.out.seven
             have hv4 := Lib.hid (hv3.out.trans (hb4.mono hv3.out.size))
             obtain ⟨g, cap, w5, hrun, hg5, hbx5⟩ := pushS hg.out hv4.out (HC.out _ B1 d1 B2 d2 B3 d3 (hx1.out.sub (fr_below _ hb4)) (ht1.out.sub (fr_below _ hb4)) (hu1.out.sub (fr_below _ hb4))) (by rw [hli.out]; omega)
             rw [hli.out] at hrun hg5
             have hg5 := Lib.hid hg5
             have s5 := (ha4.out.step (bnew5 w4 (.cells #[.int .i64 k, .string xs, .slice B1 m1 d1, .slice B2 m2 d2, .slice B3 m3 d3, .int .i64 l, .int .i64 cc] 118))).seven
             have s6 := (hbx5 _ _ (Nat.le_refl _) ha4.out).seven)
          | (refine step_append_run rfl (.tmp 16) (.tmp 34) _ (by rfl) _ _ _ w5 (by rfl) (by rfl) hrun ?_))
      all_goals
        (go_wp2_with fail
         exact ⟨⟨i + 1, by omega, by go_num, by rw [hHE.out]; exact hg5.out⟩, by simp [intOf]; omega⟩)
    · obtain rfl : i = n := by omega
      have hlt' : ¬ (i : Int) < i := by omega
      obtain ⟨A', c', rfl, h2, h3⟩ := hfin.out _ _ hg.out
      have h23 := Lib.hid (And.intro h2 h3)
      clear h2 h3 hg
      go_wp2_with fail
      go_ret
      exact ⟨A', ⟨c', rfl⟩, h23.out.1, h23.out.2⟩
end
end Go.Proofs.YtkmioieanopafaaDoor
