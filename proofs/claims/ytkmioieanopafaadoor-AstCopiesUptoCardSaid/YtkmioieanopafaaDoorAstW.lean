/- Rows of trees that lie in some blocks alone; rows that grow while others are kept (no program in it). -/
import Derived.Test.YtkmioieanopafaaDoorAstV
namespace Go.Proofs.YtkmioieanopafaaDoor
open Go.RowKit

/-- The world, of which only some blocks are looked at. -/
def only (W : World) (ok : Nat → Bool) : World := { W with heap := W.heap.mapIdx fun i o => if ok i then o else .cells #[] 0 }
theorem only_size (W : World) (ok : Nat → Bool) : (only W ok).heap.size = W.heap.size := by simp [only]
theorem only_heap (W : World) (ok : Nat → Bool) (i : Nat) : (only W ok).heap[i]? = W.heap[i]?.map fun o => if ok i then o else .cells #[] 0 := by simp [only, Array.getElem?_mapIdx]
theorem only_cell {W : World} {ok : Nat → Bool} {p : Addr} {v : Value} (h : (only W ok).cell? p = some v) : ok p.block = true ∧ W.cell? p = some v := by
  unfold World.cell? at h ⊢
  rw [only_heap] at h
  cases hb : W.heap[p.block]? with
  | none => rw [hb] at h; simp at h
  | some o =>
    rw [hb] at h
    cases hok : ok p.block with
    | true => rw [hok] at h; exact ⟨rfl, h⟩
    | false => rw [hok] at h; simp at h
theorem only_cell_mk {W : World} {ok : Nat → Bool} {p : Addr} {v : Value} (h : W.cell? p = some v) (hok : ok p.block = true) : (only W ok).cell? p = some v := by
  unfold World.cell? at h ⊢
  rw [only_heap, hok]
  cases hb : W.heap[p.block]? with
  | none => rw [hb] at h; cases h
  | some o => rw [hb] at h; exact h
/-- What is read in one world is read in the other. -/
def Sub (W W' : World) : Prop := W.heap.size ≤ W'.heap.size ∧ ∀ p v, W.cell? p = some v → W'.cell? p = some v
theorem Sub.refl (W : World) : Sub W W := ⟨Nat.le_refl _, fun _ _ h => h⟩
theorem Sub.trans {A B C : World} (h : Sub A B) (k : Sub B C) : Sub A C := ⟨Nat.le_trans h.1 k.1, fun p v e => k.2 p v (h.2 p v e)⟩
theorem Sub.below {W W' : World} (hb : Below W.heap.size W W') : Sub W W' := ⟨hb.size, fun _ _ h => cst5 hb h⟩
theorem Sub.only (W : World) (ok : Nat → Bool) : Sub (only W ok) W := ⟨by rw [only_size]; exact Nat.le_refl _, fun _ _ h => (only_cell h).2⟩
theorem Sub.only_of {W W' : World} {ok ok' : Nat → Bool} (hs : W.heap.size ≤ W'.heap.size) (h : ∀ p v, ok p.block = true → W.cell? p = some v → W'.cell? p = some v ∧ ok' p.block = true) : Sub (Proofs.YtkmioieanopafaaDoor.only W ok) (Proofs.YtkmioieanopafaaDoor.only W' ok') :=
  ⟨by rw [only_size, only_size]; exact hs, fun p v e => by
    obtain ⟨h1, h2⟩ := only_cell e
    obtain ⟨h3, h4⟩ := h p v h1 h2
    exact only_cell_mk h3 h4⟩
mutual
theorem XC.sub {W W' : World} (hb : Sub W W') : ∀ (e : XV) (cs : List Value), XC W e cs → XC W' e cs
  | .mk k n x o gs l c, cs, h => by
    unfold XC at h ⊢
    obtain ⟨A, cap, h1, h2⟩ := h
    refine ⟨A, cap, h1, fun h0 => ?_⟩
    obtain ⟨ad, h3, h4⟩ := h2 h0
    exact ⟨ad, h3, XS.sub hb gs ad h4⟩
theorem XS.sub {W W' : World} (hb : Sub W W') : ∀ (es : List XV) (ad : Addr), XS W es ad → XS W' es ad
  | [], _, _ => by unfold XS; trivial
  | e :: r, ad, h => by
    unfold XS at h ⊢
    obtain ⟨⟨cs, h1, h2⟩, h3⟩ := h
    exact ⟨⟨cs, XC.sub hb e cs h1, fun j v hj => hb.2 _ _ (h2 j v hj)⟩, XS.sub hb r _ h3⟩
end
theorem XR.sub {W W' : World} {A : Option Addr} {es : List XV} (h : XR W A es) (hb : Sub W W') : XR W' A es := fun h0 => by
  obtain ⟨ad, h1, h2⟩ := h h0
  exact ⟨ad, h1, XS.sub hb es ad h2⟩
mutual
theorem SC.sub {W W' : World} (hb : Sub W W') : ∀ (e : SV) (cs : List Value), SC W e cs → SC W' e cs
  | .mk k x es ts us l c, cs, h => by
    unfold SC at h ⊢
    obtain ⟨A1, c1, A2, c2, A3, c3, h1, h2, h3, h4⟩ := h
    refine ⟨A1, c1, A2, c2, A3, c3, h1, h2.sub hb, fun h0 => ?_, fun h0 => ?_⟩
    · obtain ⟨ad, h5, h6⟩ := h3 h0
      exact ⟨ad, h5, SS.sub hb ts ad h6⟩
    · obtain ⟨ad, h5, h6⟩ := h4 h0
      exact ⟨ad, h5, SS.sub hb us ad h6⟩
theorem SS.sub {W W' : World} (hb : Sub W W') : ∀ (es : List SV) (ad : Addr), SS W es ad → SS W' es ad
  | [], _, _ => by unfold SS; trivial
  | e :: r, ad, h => by
    unfold SS at h ⊢
    obtain ⟨⟨cs, h1, h2⟩, h3⟩ := h
    exact ⟨⟨cs, SC.sub hb e cs h1, fun j v hj => hb.2 _ _ (h2 j v hj)⟩, SS.sub hb r _ h3⟩
end
theorem SR.sub {W W' : World} {A : Option Addr} {es : List SV} (h : SR W A es) (hb : Sub W W') : SR W' A es := fun h0 => by
  obtain ⟨ad, h1, h2⟩ := h h0
  exact ⟨ad, h1, SS.sub hb es ad h2⟩
theorem XL.sub {W W' : World} (hb : Sub W W') : ∀ {es : List XV} {vs : List Value}, XL W es vs → XL W' es vs
  | [], vs, h => by unfold XL at h ⊢; exact h
  | e :: r, vs, h => by
    unfold XL at h ⊢
    obtain ⟨cs, us, h0, h1, h2⟩ := h
    exact ⟨cs, us, h0, XC.sub hb e cs h1, XL.sub hb h2⟩
theorem SL.sub {W W' : World} (hb : Sub W W') : ∀ {es : List SV} {vs : List Value}, SL W es vs → SL W' es vs
  | [], vs, h => by unfold SL at h ⊢; exact h
  | e :: r, vs, h => by
    unfold SL at h ⊢
    obtain ⟨cs, us, h0, h1, h2⟩ := h
    exact ⟨cs, us, h0, SC.sub hb e cs h1, SL.sub hb h2⟩
theorem RowS.sub {W W' : World} {A : Option Addr} {n : Nat} {r : List (List UInt8)} (h : RowS W A n r) (hb : Sub W W') : RowS W' A n r :=
  ⟨h.1, fun hn => by
    obtain ⟨ad, e, h1, h2⟩ := h.2 hn
    exact ⟨ad, e, Nat.lt_of_lt_of_le h1 hb.1, fun j u hu => hb.2 _ _ (h2 j u hu)⟩⟩
/-- The cells of a declaration; of a row of them. -/
def DC (W : World) (d : DV) (cs : List Value) : Prop := ∃ (A1 : Option Addr) (c1 : Nat) (A2 : Option Addr) (c2 : Nat), cs = [.int .i64 d.k, .string ⟨d.x.toArray⟩, .int .i64 d.lo, .int .i64 d.hi, .int .i64 d.sz, .slice A1 d.ps.length c1, .slice A2 d.body.length c2, .int .i64 d.l, .int .i64 d.c] ∧ RowS W A1 d.ps.length d.ps ∧ SR W A2 d.body
def DL (W : World) : List DV → List Value → Prop
  | [], vs => vs = []
  | e :: r, vs => ∃ cs us, vs = cs ++ us ∧ DC W e cs ∧ DL W r us
theorem DC.sub {W W' : World} (hb : Sub W W') {e : DV} {cs : List Value} (h : DC W e cs) : DC W' e cs := by
  obtain ⟨A1, c1, A2, c2, h0, h1, h2⟩ := h
  exact ⟨A1, c1, A2, c2, h0, h1.sub hb, h2.sub hb⟩
theorem DC.len {W : World} {e : DV} {cs : List Value} (h : DC W e cs) : cs.length = 9 := by
  obtain ⟨A1, c1, A2, c2, rfl, -⟩ := h
  rfl
theorem DC.one {W : World} {e : DV} {cs : List Value} (h : DC W e cs) : ∀ u ∈ cs, u.oneCell' = true := by
  obtain ⟨A1, c1, A2, c2, rfl, -⟩ := h
  intro u hu
  simp only [List.mem_cons, List.not_mem_nil, or_false] at hu
  rcases hu with rfl | rfl | rfl | rfl | rfl | rfl | rfl | rfl | rfl <;> rfl
theorem DL.sub {W W' : World} (hb : Sub W W') : ∀ {es : List DV} {vs : List Value}, DL W es vs → DL W' es vs
  | [], vs, h => by unfold DL at h ⊢; exact h
  | e :: r, vs, h => by
    unfold DL at h ⊢
    obtain ⟨cs, us, h0, h1, h2⟩ := h
    exact ⟨cs, us, h0, h1.sub hb, DL.sub hb h2⟩
theorem DL.len {W : World} : ∀ {es : List DV} {vs : List Value}, DL W es vs → vs.length = es.length * 9
  | [], vs, h => by unfold DL at h; subst h; rfl
  | e :: r, vs, h => by
    unfold DL at h
    obtain ⟨cs, us, rfl, h1, h2⟩ := h
    have := h1.len
    have := DL.len h2
    simp; omega
theorem DL.snoc {W : World} : ∀ {es : List DV} {vs : List Value} {e : DV} {cs : List Value}, DL W es vs → DC W e cs → DL W (es ++ [e]) (vs ++ cs)
  | [], vs, e, cs, h, hc => by
    unfold DL at h
    subst h
    exact ⟨cs, [], by simp, hc, rfl⟩
  | a :: r, vs, e, cs, h, hc => by
    unfold DL at h
    obtain ⟨ds, us, rfl, h1, h2⟩ := h
    exact ⟨ds, us ++ cs, by simp, h1, DL.snoc h2 hc⟩
theorem DL.at_ {W : World} : ∀ {es : List DV} {vs : List Value} {i : Nat} {e : DV}, DL W es vs → es[i]? = some e → ∃ cs, DC W e cs ∧ ∀ j v, cs[j]? = some v → vs[i * 9 + j]? = some v
  | [], _, _, _, _, h => by simp at h
  | a :: r, vs, i, e, h, he => by
    unfold DL at h
    obtain ⟨cs, us, rfl, h1, h2⟩ := h
    have hl := h1.len
    cases i with
    | zero =>
      simp at he
      subst he
      exact ⟨cs, h1, fun j v hj => by rw [Nat.zero_mul, Nat.zero_add, List.getElem?_append_left (List.getElem?_eq_some_iff.1 hj).1]; exact hj⟩
    | succ i =>
      obtain ⟨cs', h3, h4⟩ := DL.at_ h2 (i := i) (by simpa using he)
      refine ⟨cs', h3, fun j v hj => ?_⟩
      rw [List.getElem?_append_right (by omega), hl]
      have := h4 j v hj
      rwa [show (i + 1) * 9 + j - 9 = i * 9 + j by omega]
theorem DR.of_cells {W : World} {g : Nat} {es : List DV} {vs : List Value} (h : DL W es vs) (hc : ∀ j v, vs[j]? = some v → W.cell? ⟨g, j, none⟩ = some v) : DR W (some ⟨g, 0, none⟩) es := fun _ =>
  ⟨_, rfl, fun i d hd => by
    obtain ⟨cs, ⟨A1, c1, A2, c2, rfl, h1, h2⟩, h3⟩ := h.at_ hd
    have hp : ∀ j, ((⟨g, 0, none⟩ : Addr).add (i * 9)).block = g ∧ ((⟨g, 0, none⟩ : Addr).add (i * 9)).off + j = i * 9 + j := fun j => by rw [add_at]; exact ⟨rfl, by simp⟩
    have hc2 : ∀ j v, ([.int .i64 d.k, .string ⟨d.x.toArray⟩, .int .i64 d.lo, .int .i64 d.hi, .int .i64 d.sz, .slice A1 d.ps.length c1, .slice A2 d.body.length c2, .int .i64 d.l, .int .i64 d.c] : List Value)[j]? = some v → W.cell? ⟨((⟨g, 0, none⟩ : Addr).add (i * 9)).block, ((⟨g, 0, none⟩ : Addr).add (i * 9)).off + j, none⟩ = some v := fun j v hj => by
      rw [(hp j).1, (hp j).2]; exact hc _ _ (h3 j v hj)
    refine ⟨A1, c1, A2, c2, ?_, hc2 1 _ rfl, hc2 2 _ rfl, hc2 3 _ rfl, hc2 4 _ rfl, hc2 5 _ rfl, hc2 6 _ rfl, hc2 7 _ rfl, hc2 8 _ rfl, h1, h2⟩
    have := hc2 0 _ rfl
    rw [add_at] at this ⊢
    exact this⟩
theorem DR.sub {W W' : World} {A : Option Addr} {ds : List DV} (h : DR W A ds) (hb : Sub W W') : DR W' A ds := fun h0 => by
  obtain ⟨ad, h1, h2⟩ := h h0
  refine ⟨ad, h1, fun i d hd => ?_⟩
  obtain ⟨A1, c1, A2, c2, k0, k1, k2, k3, k4, k5, k6, k7, k8, k9, k10⟩ := h2 i d hd
  exact ⟨A1, c1, A2, c2, hb.2 _ _ k0, hb.2 _ _ k1, hb.2 _ _ k2, hb.2 _ _ k3, hb.2 _ _ k4, hb.2 _ _ k5, hb.2 _ _ k6, hb.2 _ _ k7, hb.2 _ _ k8, k9.sub hb, k10.sub hb⟩

/-- Blocks from B on; those but one. -/
def frB (B : Nat) (i : Nat) : Bool := decide (B ≤ i)
def frO (B : Nat) (ob : Option Nat) (i : Nat) : Bool := decide (B ≤ i ∧ ob ≠ some i)
theorem frB_mono {W : World} {B B' : Nat} (h : B' ≤ B) : Sub (only W (frB B)) (only W (frB B')) := Sub.only_of (Nat.le_refl _) fun _ _ hp hv => ⟨hv, by unfold frB at *; simp at *; omega⟩
theorem fr_below {W W' : World} (B : Nat) (hb : Below W.heap.size W W') : Sub (only W (frB B)) (only W' (frB B)) := Sub.only_of hb.size fun _ _ hp hv => ⟨cst5 hb hv, hp⟩
theorem frO_below {W W' : World} (B : Nat) (ob : Option Nat) (hb : Below W.heap.size W W') : Sub (only W (frO B ob)) (only W' (frO B ob)) := Sub.only_of hb.size fun _ _ hp hv => ⟨cst5 hb hv, hp⟩
theorem frO_frB (W : World) (B : Nat) (ob : Option Nat) : Sub (only W (frO B ob)) (only W (frB B)) := Sub.only_of (Nat.le_refl _) fun _ _ hp hv => ⟨hv, by unfold frO frB at *; simp at *; exact hp.1⟩
/-- What was made since W0 lies beside a row that lay before. -/
theorem fr_beside {W0 W : World} {B : Nat} {ob : Option Nat} (hB : B ≤ W0.heap.size) (ho : ∀ g, ob = some g → g < W0.heap.size) : Sub (only W (frB W0.heap.size)) (only W (frO B ob)) := Sub.only_of (Nat.le_refl _) fun _ _ hp hv => ⟨hv, by
  unfold frO frB at *
  simp at *
  exact ⟨by omega, fun e => by have := ho _ e; omega⟩⟩
/-- A row grows: what is looked at beside it is kept. -/
theorem frO_grown {W W' : World} {B : Nat} {ob ob' : Option Nat} (hg : W.grownBy W' ob) (hat : ob' = ob ∨ ob' = some W.heap.size) : Sub (only W (frO B ob)) (only W' (frO B ob')) := Sub.only_of hg.size fun p _ hp hv => by
  unfold frO at *
  simp only [decide_eq_true_eq, ne_eq] at *
  have hlt := World.block_lt_of_cell? W p hv
  refine ⟨?_, hp.1, fun e => ?_⟩
  · rw [World.cell?_of_block (hg.block p.block hlt (fun e => hp.2 e.symm))]
    exact hv
  · rcases hat with h | h
    · rw [h] at e; exact hp.2 e
    · rw [h] at e
      injection e with e
      omega
theorem frO_alloc {W : World} (B : Nat) (ob : Option Nat) (o : Obj) : Sub (only W (frO B ob)) (only (W.alloc o) (frO B ob)) := frO_below B ob (bnew5 _ _)
end Go.Proofs.YtkmioieanopafaaDoor
