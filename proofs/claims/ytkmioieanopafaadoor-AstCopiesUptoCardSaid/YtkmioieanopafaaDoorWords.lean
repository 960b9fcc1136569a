/- Words for memory: a slice that reads as a list; a row of numbers; a number of limbs. -/
import Derived.Test.YtkmioieanopafaaDoorMath
import Derived.Test.YtkmioieanopafaaDoorProg
import Derived.WalkKit
import Derived.WalkSpells
import Derived.WalkLawsBesides
import Derived.Handy
import Derived.Lib.Hide
import Derived.Laws.OwnMore
import Derived.Deep.AppendLies
import Derived.Maps.AppendAt
import Derived.KernelRfl
import Derived.Deep.Draws
namespace Go.Proofs.YtkmioieanopafaaDoor
open Go.RowKit

theorem block_of_add (a : Addr) (n : Nat) : (a.add n).block = a.block := by unfold Addr.add; split <;> rfl
theorem add_of_add (a : Addr) (i j : Nat) : (a.add i).add j = a.add (i + j) := by
  unfold Addr.add
  by_cases hi : i = 0 <;> by_cases hj : j = 0 <;> simp [hi, hj, Nat.add_assoc]

def Reads (w : World) (B size : Nat) (A : Option Addr) (n : Nat) (xs : List Value) : Prop :=
  xs.length = n * size ∧ (0 < n → ∃ ad, A = some ad ∧ ad.block < B ∧ ∀ j u, xs[j]? = some u → w.cell? (ad.add j) = some u)

section
variable {w w' : World} {B B' size n : Nat} {A : Option Addr} {xs : List Value}
theorem Reads.none_ : Reads w B size A 0 [] := ⟨by simp, fun h => absurd h (by omega)⟩
theorem Reads.at_ {k : Nat} (h : Reads w B 1 A n xs) (hk : k < n) : ∃ ad u, A = some ad ∧ ad.block < B ∧ xs[k]? = some u ∧ w.cell? (ad.add k) = some u := by
  obtain ⟨ad, e, hb, hc⟩ := h.2 (by omega)
  have hl : k < xs.length := by have := h.1; omega
  exact ⟨ad, xs[k], e, hb, List.getElem?_eq_getElem hl, hc k _ (List.getElem?_eq_getElem hl)⟩
theorem Reads.keep (h : Reads w B size A n xs) (hk : ∀ p : Addr, p.block < B → w'.cell? p = w.cell? p) : Reads w' B size A n xs :=
  ⟨h.1, fun hn => by
    obtain ⟨ad, e, hb, hc⟩ := h.2 hn
    exact ⟨ad, e, hb, fun j u hu => (hk _ (by rw [block_of_add]; exact hb)).trans (hc j u hu)⟩⟩
theorem Reads.more (h : Reads w B size A n xs) (hB : B ≤ B') : Reads w B' size A n xs :=
  ⟨h.1, fun hn => by
    obtain ⟨ad, e, hb, hc⟩ := h.2 hn
    exact ⟨ad, e, by omega, hc⟩⟩
theorem Reads.below (h : Reads w B size A n xs) (hb : Below B w w') : Reads w' B size A n xs := h.keep fun _ hp => hb.cell hp
theorem Reads.alloc (h : Reads w B size A n xs) (hB : B ≤ w.heap.size) (o : Obj) : Reads (w.alloc o) B size A n xs := h.keep fun p hp => World.cell?_alloc_lt w o p (by omega)
theorem Reads.setCell (h : Reads w B size A n xs) {p : Addr} (hB : B ≤ p.block) (u : Value) : Reads (w.setCell p u) B size A n xs :=
  h.keep fun q hq => World.cell?_setCell_other w p q u (fun e => by subst e; omega)
theorem Reads.grown (h : Reads w B size A n xs) {row : Option Nat} (hg : w.grownBy w' row) (hB : B ≤ w.heap.size) (hr : ∀ g, row = some g → B ≤ g) : Reads w' B size A n xs :=
  h.keep fun p hp => World.cell?_of_block (hg.block p.block (by omega) (fun e => by have := hr _ e.symm; omega))
theorem Reads.of_own {base : Nat} {e : TypeId} {c : Nat} (h : w.ownsRow base e size (.slice A n c) n xs) : Reads w w.heap.size size A n xs := by
  refine ⟨h.1, fun hn => ?_⟩
  obtain ⟨g, cap, hv, _, hlt⟩ := h.form hn
  have hA : A = some ⟨g, 0, none⟩ := by injection hv
  subst hA
  exact ⟨_, rfl, hlt, h.cells (g := g) rfl⟩
end

/-- The values of a row of numbers of one kind. -/
def ints (k : IntKind) (l : List Nat) : List Value := l.map fun (x : Nat) => Value.int k (x : Int)

theorem ints_length (k : IntKind) (l : List Nat) : (ints k l).length = l.length := by simp [ints]
theorem ints_get (k : IntKind) (l : List Nat) (i : Nat) (h : i < l.length) : (ints k l)[i]? = some (.int k ((Dig.at_ l i : Nat) : Int)) := by
  rw [Dig.at_lt h]; simp [ints, h]
theorem ints_append (k : IntKind) (l m : List Nat) : ints k (l ++ m) = ints k l ++ ints k m := by simp [ints]

/-- A slice of numbers of kind k: its cells are those of l. -/
def Row (w : World) (B : Nat) (k : IntKind) (A : Option Addr) (n : Nat) (l : List Nat) : Prop := Reads w B 1 A n (ints k l)

section
variable {w w' : World} {B B' n : Nat} {k : IntKind} {A : Option Addr} {l : List Nat}
theorem Row.len (h : Row w B k A n l) : n = l.length := by have := h.1; rw [ints_length] at this; omega
theorem Row.at_ {i : Nat} (h : Row w B k A n l) (hi : i < n) : ∃ ad, A = some ad ∧ ad.block < B ∧ w.cell? (ad.add i) = some (.int k ((Dig.at_ l i : Nat) : Int)) := by
  obtain ⟨ad, u, e, hb, hx, hc⟩ := Reads.at_ h hi
  have hl := h.len
  rw [ints_get k l i (by omega)] at hx
  injection hx with hx
  exact ⟨ad, e, hb, by rw [hc, hx]⟩
theorem Row.keep (h : Row w B k A n l) (hk : ∀ p : Addr, p.block < B → w'.cell? p = w.cell? p) : Row w' B k A n l := Reads.keep h hk
theorem Row.more (h : Row w B k A n l) (hB : B ≤ B') : Row w B' k A n l := Reads.more h hB
theorem Row.below (h : Row w B k A n l) (hb : Below B w w') : Row w' B k A n l := Reads.below h hb
theorem Row.alloc (h : Row w B k A n l) (hB : B ≤ w.heap.size) (o : Obj) : Row (w.alloc o) B k A n l := Reads.alloc h hB o
theorem Row.take {m : Nat} (h : Row w B k A n l) (hm : m ≤ n) : Row w B k A m (l.take m) := by
  have hl := h.len
  refine ⟨by rw [ints_length, List.length_take]; omega, fun h0 => ?_⟩
  obtain ⟨ad, e, hb, hc⟩ := h.2 (by omega)
  refine ⟨ad, e, hb, fun j u hu => hc j u ?_⟩
  have : ints k (l.take m) = (ints k l).take m := by simp [ints, List.map_take]
  rw [this, List.getElem?_take] at hu
  split at hu
  · exact hu
  · cases hu
end

/-- A row of the call's own, as a slice in parts. -/
def Own (w : World) (base : Nat) (e : TypeId) (k : IntKind) (A : Option Addr) (n c : Nat) (l : List Nat) : Prop := w.ownsRow base e 1 (.slice A n c) n (ints k l)

section
variable {w w' : World} {base e n c : Nat} {k : IntKind} {A : Option Addr} {l : List Nat}
theorem Own.len (h : Own w base e k A n c l) : n = l.length := by have := h.1; rw [ints_length] at this; omega
theorem Own.row (h : Own w base e k A n c l) : Row w w.heap.size k A n l := Reads.of_own h
theorem Own.cap (h : Own w base e k A n c l) : n ≤ c ∧ c ≤ maxLen := by
  rcases h.2 with ⟨hv, h0⟩ | ⟨g, cap, cur, hv, _, _, h1, h2, _⟩
  · injection hv with _ h1 h2
    subst h0 h2
    exact ⟨Nat.le_refl _, by unfold maxLen; omega⟩
  · injection hv with _ _ h3
    subst h3
    exact ⟨h1, h2⟩
theorem Own.of {v : Value} (h : w.ownsRow base e 1 v n (ints k l)) : ∃ A c, v = .slice A n c ∧ Own w base e k A n c l := by
  rcases h.2 with ⟨hv, h0⟩ | ⟨g, cap, cur, hv, _⟩
  · subst h0
    exact ⟨none, 0, hv, by unfold Own; rw [← hv]; exact h⟩
  · exact ⟨some ⟨g, 0, none⟩, cap, hv, by unfold Own; rw [← hv]; exact h⟩
theorem Own.mono {base' : Nat} (h : Own w base e k A n c l) (hb : base' ≤ base) : Own w base' e k A n c l := by
  refine ⟨h.1, ?_⟩
  rcases h.2 with h2 | ⟨g, cap, cur, hv, hg, r⟩
  · exact Or.inl h2
  · exact Or.inr ⟨g, cap, cur, hv, Nat.le_trans hb hg, r⟩
theorem Own.setCell (h : Own w base e k A n c l) {p : Addr} (hp : p.block < base) (u : Value) : Own (w.setCell p u) base e k A n c l := ownsRow_setCell_below h hp u
theorem Own.below {B : Nat} (h : Own w base e k A n c l) (hb : Below B w w') (hB : w.heap.size ≤ B) : Own w' base e k A n c l := by
  refine ⟨h.1, ?_⟩
  rcases h.2 with h2 | ⟨g, cap, cur, hv, hg, hh, r⟩
  · exact Or.inl h2
  · exact Or.inr ⟨g, cap, cur, hv, hg, by rw [hb.block g (Nat.lt_of_lt_of_le (Array.getElem?_eq_some_iff.1 hh).1 hB)]; exact hh, r⟩
theorem Own.nil (w : World) (base : Nat) (e : TypeId) (k : IntKind) : Own w base e k none 0 0 [] := World.ownsRow_nil w base e 1
end

/-- 2 to the 64, kept behind a name. -/
def LB : Nat := 18446744073709551616
theorem LB_pos : 0 < LB := by unfold LB; omega
theorem LB_lt {x : Nat} (h : x < LB) : (x : Int) < 18446744073709551616 := by unfold LB at h; omega

/-- A number of limbs: a slice in parts that holds the row of N's digits; its memory lies from block 'base' on. -/
def Num (w : World) (base : Nat) (A : Option Addr) (n c N : Nat) : Prop :=
  ∃ l, Row w w.heap.size .u64 A n l ∧ Dig.Norm l ∧ Dig.Below LB l ∧ Dig.val LB l = N ∧ n ≤ c ∧ c ≤ maxLen ∧ (n = 0 → A = none ∧ c = 0) ∧ ∀ ad, A = some ad → base ≤ ad.block

theorem Row.setCell {w : World} {B n : Nat} {k : IntKind} {A : Option Addr} {l : List Nat} (h : Row w B k A n l) {p : Addr} (hp : ∀ ad, A = some ad → p.block ≠ ad.block) (u : Value) : Row (w.setCell p u) B k A n l := by
  refine ⟨h.1, fun hn => ?_⟩
  obtain ⟨ad, e, hb, hc⟩ := h.2 hn
  refine ⟨ad, e, hb, fun j x hx => ?_⟩
  rw [World.cell?_setCell_other w p (ad.add j) u (fun e2 => hp ad e (by rw [e2, block_of_add]))]
  exact hc j x hx
theorem Own.ge {w : World} {base e n c : Nat} {k : IntKind} {A : Option Addr} {l : List Nat} (h : Own w base e k A n c l) : ∀ ad, A = some ad → base ≤ ad.block := by
  rintro ad rfl
  rcases h.2 with ⟨hv, _⟩ | ⟨g, cap, cur, hv, hg, _⟩
  · injection hv with h1; cases h1
  · injection hv with h1; injection h1 with h1; subst h1; exact hg

section
variable {w w' : World} {n c N base : Nat} {A : Option Addr}
theorem Num.below (h : Num w base A n c N) (hb : Below w.heap.size w w') : Num w' base A n c N := by
  obtain ⟨l, h1, h2⟩ := h
  exact ⟨l, (h1.below hb).more hb.size, h2⟩
theorem Num.alloc (h : Num w base A n c N) (o : Obj) : Num (w.alloc o) base A n c N := h.below ((Below.refl _ _).alloc (Nat.le_refl _) o)
theorem Num.zero (w : World) (base : Nat) : Num w base none 0 0 0 := ⟨[], Reads.none_, Dig.norm_nil, Dig.Below.nil _, rfl, Nat.le_refl _, by unfold maxLen; omega, fun _ => ⟨rfl, rfl⟩, fun _ h => by cases h⟩
theorem Num.mono {base' : Nat} (h : Num w base A n c N) (hb : base' ≤ base) : Num w base' A n c N := by
  obtain ⟨l, h1, h2, h3, h4, h5, h6, h7, h8⟩ := h
  exact ⟨l, h1, h2, h3, h4, h5, h6, h7, fun ad ha => Nat.le_trans hb (h8 ad ha)⟩
theorem Num.setCell (h : Num w base A n c N) {p : Addr} (hp : p.block < base) (u : Value) : Num (w.setCell p u) base A n c N := by
  obtain ⟨l, h1, h2, h3, h4, h5, h6, h7, h8⟩ := h
  have e : (w.setCell p u).heap.size = w.heap.size := by simp [World.setCell]
  exact ⟨l, by rw [e]; exact h1.setCell (fun ad ha => by have := h8 ad ha; omega) u, h2, h3, h4, h5, h6, h7, h8⟩
theorem Num.le (h : Num w base A n c N) : n ≤ c ∧ c ≤ maxLen := by
  obtain ⟨l, h1, h2, h3, h4, h5, h6, h7, h8⟩ := h
  exact ⟨h5, h6⟩
end
theorem Num.of_own {w : World} {base n c N e : Nat} {A : Option Addr} {l : List Nat} (h : Own w base e .u64 A n c l) (h1 : Dig.Norm l) (h2 : Dig.Below LB l) (h3 : Dig.val LB l = N) (h4 : n = 0 → A = none ∧ c = 0) : Num w base A n c N :=
  ⟨l, h.row, h1, h2, h3, h.cap.1, h.cap.2, h4, h.ge⟩

theorem bcell {W w1 : World} (hb : Below W.heap.size W w1) : (∀ b o, b < W.heap.size → w1.cell? ⟨b, o, none⟩ = W.cell? ⟨b, o, none⟩) ∧ (∀ b o, b < W.heap.size → w1.frozen? ⟨b, o, none⟩ = W.frozen? ⟨b, o, none⟩) :=
  ⟨fun b o h => hb.cell (p := ⟨b, o, none⟩) h, fun b o h => hb.frozen (p := ⟨b, o, none⟩) h⟩

theorem bcell1 {W w1 : World} (hb : Below W.heap.size W w1) {b o : Nat} {v : Value} (hc : W.cell? ⟨b, o, none⟩ = some v) (hf : W.frozen? ⟨b, o, none⟩ = false) : w1.cell? ⟨b, o, none⟩ = some v ∧ w1.frozen? ⟨b, o, none⟩ = false := by
  have hlt : b < W.heap.size := World.block_lt_of_cell? W ⟨b, o, none⟩ hc
  exact ⟨(hb.cell (p := ⟨b, o, none⟩) hlt).trans hc, (hb.frozen (p := ⟨b, o, none⟩) hlt).trans hf⟩

section
variable {P : Program} (w : World)
theorem run_append_of_nil (base : Nat) (t ty e : TypeId) (i : TypeInfo) (size : Nat) (ht : P.underlying t = some (.slice e)) (hi : P.info? e = some i)
    (v : Value) (n : Nat) (xs : List Value) (hown : w.ownsRow base e size v n xs) (c : Nat) : (Builtin.append_ #[t, t] ty #[v, .slice none 0 c]).run P w = .ok v w := by
  rcases hown.2 with ⟨rfl, rfl⟩ | ⟨g, cap, cur, rfl, _, _, hnc, _⟩
  · simp [Builtin.append_, run_underlying ht, sizeOf, typeInfo, hi, Builtin.lenOf, Builtin.firstCells]
  · simp [Builtin.append_, run_underlying ht, sizeOf, typeInfo, hi, Builtin.lenOf, Builtin.firstCells, hnc, storeCells]

theorem run_append_any (base : Nat) (t ty e : TypeId) (i : TypeInfo) (z : Value) (size bytes : Nat) (ht : P.underlying t = some (.slice e)) (hi : P.info? e = some i) (hz : i.zero = some z)
    (hsize : i.size = size) (hby : i.bytes = bytes) (hzs : z.cells.size = size) (hsz : 0 < size)
    (v : Value) (n : Nat) (xs : List Value) (hown : w.ownsRow base e size v n xs)
    (B : Nat) (A : Option Addr) (m c : Nat) (news : List Value) (hr : Reads w B size A m news) (h1 : ∀ u ∈ news, u.oneCell' = true)
    (h63 : n + m ≤ maxLen) (hbytes : (n + m) * bytes ≤ 140737488355328) (hbase : base ≤ w.heap.size) :
    ∃ v' w', (Builtin.append_ #[t, t] ty #[v, .slice A m c]).run P w = .ok v' w' ∧ w'.ownsRow base e size v' (n + m) (xs ++ news) ∧ w.grownBy w' v.ownBlock ∧
      (v'.ownBlock = v.ownBlock ∨ v'.ownBlock = some w.heap.size) := by
  rcases A with _ | ad
  · have hm : m = 0 := by
      rcases Nat.eq_zero_or_pos m with h0 | h0
      · exact h0
      · obtain ⟨ad, h, _⟩ := hr.2 h0
        cases h
    subst hm
    have hn : news = [] := List.eq_nil_of_length_eq_zero (by simpa using hr.1)
    subst hn
    exact ⟨v, w, run_append_of_nil w base t ty e i size ht hi v n xs hown c, by simpa using hown, World.grownBy.refl w _, .inl rfl⟩
  · have hcells : ∀ j u, news[j]? = some u → w.cell? (ad.add j) = some u := by
      intro j u hu
      rcases Nat.eq_zero_or_pos m with h0 | h0
      · subst h0
        have hn : news = [] := List.eq_nil_of_length_eq_zero (by simpa using hr.1)
        subst hn
        simp at hu
      · obtain ⟨ad', h, _, hc⟩ := hr.2 h0
        injection h with h
        subst h
        exact hc j u hu
    obtain ⟨v', w', hrun, h2, h3, _, h5⟩ := run_append_own_at (P := P) w base t ty e i z size bytes ht hi hz hsize hby hzs hsz v n xs hown ad m c news hr.1 hcells h1 h63 hbytes hbase
    exact ⟨v', w', hrun, h2, h3, h5⟩

theorem wp_append_any {o : Oper} {a : Act} {K : Act → World → Prop} {Q : Exit → Act → World → Prop} (s x : Operand) (t : TypeId)
    (ho : o.op = .call { callee := .builtin .append, args := #[s, x], argTypes := #[t, t] })
    (base : Nat) (e : TypeId) (i : TypeInfo) (z : Value) (size bytes : Nat) (ht : P.underlying t = some (.slice e)) (hi : P.info? e = some i) (hz : i.zero = some z)
    (hsize : i.size = size) (hby : i.bytes = bytes) (hzs : z.cells.size = size) (hsz : 0 < size)
    (v : Value) (n : Nat) (xs : List Value) (hs : a.eval s = v) (hown : w.ownsRow base e size v n xs)
    (B : Nat) (A : Option Addr) (m c : Nat) (news : List Value) (hx : a.eval x = .slice A m c) (hr : Reads w B size A m news) (h1 : ∀ u ∈ news, u.oneCell' = true)
    (h63 : n + m ≤ maxLen) (hbytes : (n + m) * bytes ≤ 140737488355328) (hbase : base ≤ w.heap.size)
    (h : ∀ v' w', w'.ownsRow base e size v' (n + m) (xs ++ news) → w.grownBy w' v.ownBlock → (v'.ownBlock = v.ownBlock ∨ v'.ownBlock = some w.heap.size) → K (a.put o.dst v') w') : o.wp P a w K Q := by
  obtain ⟨v', w', hrun, h2, h3, h4⟩ := run_append_any (P := P) w base t o.type e i z size bytes ht hi hz hsize hby hzs hsz v n xs hown B A m c news hr h1 h63 hbytes hbase
  unfold Oper.wp execOp
  simp only [ho, resolve, invoke, builtin, Sem.run_bind, Sem.run_pure, Result.andThen_ok, List.map_toArray, List.map_cons, List.map_nil, hs, hx, hrun]
  exact h v' w' h2 h3 h4

theorem wpList_append_any {ops : Array Oper} {rest : List Oper} {o : Oper} {a : Act} {Q : Exit → Act → World → Prop} (hgd : o.guard = none) (s x : Operand) (t : TypeId)
    (ho : o.op = .call { callee := .builtin .append, args := #[s, x], argTypes := #[t, t] })
    (base : Nat) (e : TypeId) (i : TypeInfo) (z : Value) (size bytes : Nat) (ht : P.underlying t = some (.slice e)) (hi : P.info? e = some i) (hz : i.zero = some z)
    (hsize : i.size = size) (hby : i.bytes = bytes) (hzs : z.cells.size = size) (hsz : 0 < size)
    (v : Value) (n : Nat) (xs : List Value) (hs : a.eval s = v) (hown : w.ownsRow base e size v n xs)
    (B : Nat) (A : Option Addr) (m c : Nat) (news : List Value) (hx : a.eval x = .slice A m c) (hr : Reads w B size A m news) (h1 : ∀ u ∈ news, u.oneCell' = true)
    (h63 : n + m ≤ maxLen) (hbytes : (n + m) * bytes ≤ 140737488355328) (hbase : base ≤ w.heap.size)
    (h : ∀ v' w', w'.ownsRow base e size v' (n + m) (xs ++ news) → w.grownBy w' v.ownBlock → (v'.ownBlock = v.ownBlock ∨ v'.ownBlock = some w.heap.size) → wpList P ops Q rest (a.put o.dst v') w') : wpList P ops Q (o :: rest) a w :=
  wpList_plain hgd fun _ hK => wp_append_any w s x t ho base e i z size bytes ht hi hz hsize hby hzs hsz v n xs hs hown B A m c news hx hr h1 h63 hbytes hbase fun v' w' h2 h3 h4 => hK _ _ (h v' w' h2 h3 h4)
end

theorem ints_oneCell (k : IntKind) (l : List Nat) : ∀ u ∈ ints k l, u.oneCell' = true := by
  intro u hu
  obtain ⟨x, _, rfl⟩ := List.mem_map.1 hu
  rfl

theorem info_u8 : (Tryd.prog.info? 5).map (fun i => (i.zero, i.size, i.bytes)) = some (some (.int .u8 0), 1, 1) := by kernel_rfl


/-- A block of numbers, known whole. -/
def Blk (w : World) (g e : Nat) (k : IntKind) (L : List Nat) : Prop := w.heap[g]? = some (.cells (ints k L).toArray e (0, 0))

section
variable {w w' : World} {g e : Nat} {k : IntKind} {L : List Nat}
theorem Blk.lt (h : Blk w g e k L) : g < w.heap.size := by
  rcases Nat.lt_or_ge g w.heap.size with hlt | hge
  · exact hlt
  · unfold Blk at h; rw [Array.getElem?_eq_none hge] at h; cases h
theorem Blk.cell (h : Blk w g e k L) {i : Nat} (hi : i < L.length) : w.cell? ⟨g, i, none⟩ = some (.int k (Dig.at_ L i : Nat)) := by
  rw [cell_of_row w g i _ e (0, 0) h]
  simpa using ints_get k L i hi
theorem Blk.frozen (h : Blk w g e k L) (i : Nat) : w.frozen? ⟨g, i, none⟩ = false := by
  unfold Blk at h
  simp [World.frozen?, h]
theorem ints_set (k : IntKind) (L : List Nat) (i x : Nat) : (ints k L).set i (.int k (x : Int)) = ints k (L.set i x) := by simp [ints, List.map_set]
theorem Blk.set_ (h : Blk w g e k L) (i x : Nat) : Blk (w.setCell ⟨g, i, none⟩ (.int k (x : Int))) g e k (L.set i x) := by
  unfold Blk at h ⊢
  rw [← ints_set]
  simp [World.setCell, Array.getElem?_modify, h]
theorem Blk.far (h : Blk w g e k L) {p : Addr} (hp : g ≠ p.block) (u : Value) : Blk (w.setCell p u) g e k L := (Below.heap_setCell w p u g hp).trans h
theorem Blk.below {B : Nat} (h : Blk w g e k L) (hb : Below B w w') (hg : g < B) : Blk w' g e k L := (hb.block g hg).trans h
theorem Blk.own {base : Nat} (h : Blk w g e k L) (hg : base ≤ g) (hm : L.length ≤ maxLen) : Own w base e k (some ⟨g, 0, none⟩) L.length L.length L :=
  ⟨by simp [ints], .inr ⟨g, L.length, _, rfl, hg, h, Nat.le_refl _, hm, by simp [ints], by simp only [Nat.mul_one]; rw [List.take_of_length_le (by simp [ints])]⟩⟩
theorem Blk.row (h : Blk w g e k L) : Row w w.heap.size k (some ⟨g, 0, none⟩) L.length L := by
  refine ⟨by simp [ints], fun _ => ⟨_, rfl, h.lt, fun j u hu => ?_⟩⟩
  have e1 : (⟨g, 0, none⟩ : Addr).add j = ⟨g, j, none⟩ := by unfold Addr.add; split <;> simp_all
  rw [e1, cell_of_row w g j _ e (0, 0) h]
  simpa using hu
end

theorem madeCells_one (v : Value) (n : Nat) : madeCells #[v] n = (List.replicate n v).toArray := by
  apply Array.ext
  · simp [madeCells]
  · intro i h1 h2
    simp [madeCells, Nat.mod_one]

theorem ints_zeros (k : IntKind) (n : Nat) : ints k (List.replicate n 0) = List.replicate n (.int k 0) := by simp [ints]

theorem Blk.made (w : World) (e n : Nat) (k : IntKind) : Blk (w.alloc (.cells (ints k (List.replicate n 0)).toArray e)) w.heap.size e k (List.replicate n 0) := by
  unfold Blk
  exact heap_alloc_new w _

end Go.Proofs.YtkmioieanopafaaDoor
