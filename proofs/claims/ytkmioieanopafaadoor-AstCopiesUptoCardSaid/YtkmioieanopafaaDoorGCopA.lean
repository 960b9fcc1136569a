/- Trees in memory of their own: which blocks hold what, none of them twice (no program in it). Rows that are made whole and then filled, one by one: copied. What the loop keeps (no program in it). -/
import Derived.Test.YtkmioieanopafaaDoorGDocA
namespace Go.Proofs.YtkmioieanopafaaDoor
section
open Go.RowKit

/-- Blocks from lo on, below hi, are as they were. -/
def Kp (lo hi : Nat) (W W' : World) : Prop := W.heap.size ≤ W'.heap.size ∧ ∀ i, lo ≤ i → i < hi → W'.heap[i]? = W.heap[i]?
theorem Kp.mono {lo hi lo' hi' : Nat} {W W' : World} (h : Kp lo hi W W') (h1 : lo ≤ lo') (h2 : hi' ≤ hi) : Kp lo' hi' W W' := ⟨h.1, fun i k1 k2 => h.2 i (by omega) (by omega)⟩
theorem Kp.trans {lo hi : Nat} {A B C : World} (h : Kp lo hi A B) (k : Kp lo hi B C) : Kp lo hi A C := ⟨Nat.le_trans h.1 k.1, fun i k1 k2 => (k.2 i k1 k2).trans (h.2 i k1 k2)⟩
theorem Kp.of_below {lo hi : Nat} {W W' : World} (hb : Below W.heap.size W W') (h : hi ≤ W.heap.size) : Kp lo hi W W' := ⟨hb.size, fun i _ k => hb.block i (by omega)⟩
theorem Kp.set (W : World) {lo hi b o : Nat} (u : Value) (h : b < lo ∨ hi ≤ b) : Kp lo hi W (W.setCell ⟨b, o, none⟩ u) := ⟨by simp [World.setCell], fun i k1 k2 => Below.heap_setCell _ _ _ i (show i ≠ b by omega)⟩
theorem frI_kp {W W' : World} {lo hi : Nat} (h : Kp lo hi W W') : Sub (only W (frI lo hi)) (only W' (frI lo hi)) := Sub.only_of h.1 fun p v hp hv => by
  refine ⟨?_, hp⟩
  have hp' : lo ≤ p.block ∧ p.block < hi := by unfold frI at hp; simpa using hp
  exact (World.cell?_of_block (h.2 p.block hp'.1 hp'.2)).trans hv
theorem frI_mono {W : World} {lo hi lo' hi' : Nat} (h1 : lo' ≤ lo) (h2 : hi ≤ hi') : Sub (only W (frI lo hi)) (only W (frI lo' hi')) := Sub.only_of (Nat.le_refl _) fun p v hp hv => by
  refine ⟨hv, ?_⟩
  unfold frI at *
  simp at hp ⊢
  omega
theorem frI_frB {W : World} {lo hi k : Nat} (h : k ≤ lo) : Sub (only W (frI lo hi)) (only W (frB k)) := Sub.only_of (Nat.le_refl _) fun p v hp hv => by
  refine ⟨hv, ?_⟩
  unfold frI frB at *
  simp at hp ⊢
  omega

/-- A row of expressions: a block of its own, what hangs on it lies behind it. -/
def XO (W : World) (lo hi : Nat) (A : Option Addr) (es : List XV) : Prop :=
  es ≠ [] → ∃ b vs T, A = some ⟨b, 0, none⟩ ∧ lo ≤ b ∧ b < hi ∧ W.heap[b]? = some (.cells (vs : List Value).toArray T (0, 0)) ∧ XL (only W (frI (b + 1) hi)) es vs
mutual
/-- A statement's cells, and its rows; the rows of one lie before those of the next. -/
def SOC (W : World) : SV → Nat → Nat → List Value → Prop
  | .mk k x es ts us l c, lo, hi, cs => ∃ (A1 : Option Addr) (c1 : Nat) (A2 : Option Addr) (c2 : Nat) (A3 : Option Addr) (c3 m1 m2 : Nat), cs = [.int .i64 k, .string ⟨x.toArray⟩, .slice A1 es.length c1, .slice A2 ts.length c2, .slice A3 us.length c3, .int .i64 l, .int .i64 c] ∧ lo ≤ m1 ∧ m1 ≤ m2 ∧ m2 ≤ hi ∧ XO W lo m1 A1 es ∧
      (ts ≠ [] → ∃ b vs T, A2 = some ⟨b, 0, none⟩ ∧ m1 ≤ b ∧ b < m2 ∧ W.heap[b]? = some (.cells (vs : List Value).toArray T (0, 0)) ∧ STO W ts (b + 1) m2 vs) ∧
      (us ≠ [] → ∃ b vs T, A3 = some ⟨b, 0, none⟩ ∧ m2 ≤ b ∧ b < hi ∧ W.heap[b]? = some (.cells (vs : List Value).toArray T (0, 0)) ∧ STO W us (b + 1) hi vs)
def STO (W : World) : List SV → Nat → Nat → List Value → Prop
  | [], _, _, vs => vs = []
  | s :: r, lo, hi, vs => ∃ m cs us, lo ≤ m ∧ m ≤ hi ∧ vs = cs ++ us ∧ SOC W s lo m cs ∧ STO W r m hi us
end
def SO (W : World) (lo hi : Nat) (A : Option Addr) (l : List SV) : Prop :=
  l ≠ [] → ∃ b vs T, A = some ⟨b, 0, none⟩ ∧ lo ≤ b ∧ b < hi ∧ W.heap[b]? = some (.cells (vs : List Value).toArray T (0, 0)) ∧ STO W l (b + 1) hi vs
/-- A row of names. -/
def NO (W : World) (lo hi : Nat) (A : Option Addr) (r : List (List UInt8)) : Prop :=
  r ≠ [] → ∃ b T, A = some ⟨b, 0, none⟩ ∧ lo ≤ b ∧ b < hi ∧ W.heap[b]? = some (.cells (strs r).toArray T (0, 0))
def DOC (W : World) (d : DV) (lo hi : Nat) (cs : List Value) : Prop := ∃ (A1 : Option Addr) (c1 : Nat) (A2 : Option Addr) (c2 m1 : Nat), cs = [.int .i64 d.k, .string ⟨d.x.toArray⟩, .int .i64 d.lo, .int .i64 d.hi, .int .i64 d.sz, .slice A1 d.ps.length c1, .slice A2 d.body.length c2, .int .i64 d.l, .int .i64 d.c] ∧ lo ≤ m1 ∧ m1 ≤ hi ∧ NO W lo m1 A1 d.ps ∧ SO W m1 hi A2 d.body
def DTO (W : World) : List DV → Nat → Nat → List Value → Prop
  | [], _, _, vs => vs = []
  | s :: r, lo, hi, vs => ∃ m cs us, lo ≤ m ∧ m ≤ hi ∧ vs = cs ++ us ∧ DOC W s lo m cs ∧ DTO W r m hi us
def DO (W : World) (lo hi : Nat) (A : Option Addr) (l : List DV) : Prop :=
  l ≠ [] → ∃ b vs T, A = some ⟨b, 0, none⟩ ∧ lo ≤ b ∧ b < hi ∧ W.heap[b]? = some (.cells (vs : List Value).toArray T (0, 0)) ∧ DTO W l (b + 1) hi vs

/-! ### Kept -/
theorem XO.keep {W W' : World} {lo hi : Nat} {A : Option Addr} {es : List XV} (h : XO W lo hi A es) (hk : Kp lo hi W W') : XO W' lo hi A es := fun h0 => by
  obtain ⟨b, vs, T, h1, h2, h3, h4, h5⟩ := h h0
  exact ⟨b, vs, T, h1, h2, h3, (hk.2 b h2 h3).trans h4, XL.sub (frI_kp (hk.mono (by omega) (Nat.le_refl _))) h5⟩
mutual
theorem SOC.keep {W W' : World} : ∀ (s : SV) (lo hi : Nat) (cs : List Value), SOC W s lo hi cs → Kp lo hi W W' → SOC W' s lo hi cs
  | .mk k x es ts us l c, lo, hi, cs, h, hk => by
    unfold SOC at h ⊢
    obtain ⟨A1, c1, A2, c2, A3, c3, m1, m2, h0, h1, h2, h3, h4, h5, h6⟩ := h
    refine ⟨A1, c1, A2, c2, A3, c3, m1, m2, h0, h1, h2, h3, h4.keep (hk.mono (Nat.le_refl _) (by omega)), fun hn => ?_, fun hn => ?_⟩
    · obtain ⟨b, vs, T, k1, k2, k3, k4, k5⟩ := h5 hn
      exact ⟨b, vs, T, k1, k2, k3, (hk.2 b (by omega) (by omega)).trans k4, STO.keep ts _ _ vs k5 (hk.mono (by omega) (by omega))⟩
    · obtain ⟨b, vs, T, k1, k2, k3, k4, k5⟩ := h6 hn
      exact ⟨b, vs, T, k1, k2, k3, (hk.2 b (by omega) (by omega)).trans k4, STO.keep us _ _ vs k5 (hk.mono (by omega) (by omega))⟩
theorem STO.keep {W W' : World} : ∀ (l : List SV) (lo hi : Nat) (vs : List Value), STO W l lo hi vs → Kp lo hi W W' → STO W' l lo hi vs
  | [], _, _, _, h, _ => by unfold STO at h ⊢; exact h
  | s :: r, lo, hi, vs, h, hk => by
    unfold STO at h ⊢
    obtain ⟨m, cs, us, h1, h2, h3, h4, h5⟩ := h
    exact ⟨m, cs, us, h1, h2, h3, SOC.keep s _ _ cs h4 (hk.mono (Nat.le_refl _) h2), STO.keep r _ _ us h5 (hk.mono h1 (Nat.le_refl _))⟩
end
theorem SO.keep {W W' : World} {lo hi : Nat} {A : Option Addr} {l : List SV} (h : SO W lo hi A l) (hk : Kp lo hi W W') : SO W' lo hi A l := fun h0 => by
  obtain ⟨b, vs, T, h1, h2, h3, h4, h5⟩ := h h0
  exact ⟨b, vs, T, h1, h2, h3, (hk.2 b h2 h3).trans h4, h5.keep l _ _ vs (hk.mono (by omega) (Nat.le_refl _))⟩
theorem NO.keep {W W' : World} {lo hi : Nat} {A : Option Addr} {r : List (List UInt8)} (h : NO W lo hi A r) (hk : Kp lo hi W W') : NO W' lo hi A r := fun h0 => by
  obtain ⟨b, T, h1, h2, h3, h4⟩ := h h0
  exact ⟨b, T, h1, h2, h3, (hk.2 b h2 h3).trans h4⟩
theorem DOC.keep {W W' : World} {d : DV} {lo hi : Nat} {cs : List Value} (h : DOC W d lo hi cs) (hk : Kp lo hi W W') : DOC W' d lo hi cs := by
  obtain ⟨A1, c1, A2, c2, m1, h0, h1, h2, h3, h4⟩ := h
  exact ⟨A1, c1, A2, c2, m1, h0, h1, h2, h3.keep (hk.mono (Nat.le_refl _) h2), h4.keep (hk.mono h1 (Nat.le_refl _))⟩
theorem DTO.keep {W W' : World} : ∀ (l : List DV) (lo hi : Nat) (vs : List Value), DTO W l lo hi vs → Kp lo hi W W' → DTO W' l lo hi vs
  | [], _, _, _, h, _ => by unfold DTO at h ⊢; exact h
  | s :: r, lo, hi, vs, h, hk => by
    unfold DTO at h ⊢
    obtain ⟨m, cs, us, h1, h2, h3, h4, h5⟩ := h
    exact ⟨m, cs, us, h1, h2, h3, h4.keep (hk.mono (Nat.le_refl _) h2), DTO.keep r _ _ us h5 (hk.mono h1 (Nat.le_refl _))⟩
theorem DO.keep {W W' : World} {lo hi : Nat} {A : Option Addr} {l : List DV} (h : DO W lo hi A l) (hk : Kp lo hi W W') : DO W' lo hi A l := fun h0 => by
  obtain ⟨b, vs, T, h1, h2, h3, h4, h5⟩ := h h0
  exact ⟨b, vs, T, h1, h2, h3, (hk.2 b h2 h3).trans h4, h5.keep l _ _ vs (hk.mono (by omega) (Nat.le_refl _))⟩

/-! ### Within more blocks -/
theorem XO.mono {W : World} {lo hi lo' hi' : Nat} {A : Option Addr} {es : List XV} (h : XO W lo hi A es) (h1 : lo' ≤ lo) (h2 : hi ≤ hi') : XO W lo' hi' A es := fun h0 => by
  obtain ⟨b, vs, T, k1, k2, k3, k4, k5⟩ := h h0
  exact ⟨b, vs, T, k1, by omega, by omega, k4, XL.sub (frI_mono (Nat.le_refl _) h2) k5⟩
theorem SOC.lohi {W : World} {s : SV} {lo hi : Nat} {cs : List Value} (h : SOC W s lo hi cs) : lo ≤ hi := by
  cases s
  unfold SOC at h
  obtain ⟨A1, c1, A2, c2, A3, c3, m1, m2, h0, h1, h2, h3, -⟩ := h
  omega
mutual
theorem SOC.mono {W : World} : ∀ (s : SV) (lo hi lo' hi' : Nat) (cs : List Value), SOC W s lo hi cs → lo' ≤ lo → hi ≤ hi' → SOC W s lo' hi' cs
  | .mk k x es ts us l c, lo, hi, lo', hi', cs, h, h1, h2 => by
    unfold SOC at h ⊢
    obtain ⟨A1, c1, A2, c2, A3, c3, m1, m2, k0, k1, k2, k3, k4, k5, k6⟩ := h
    refine ⟨A1, c1, A2, c2, A3, c3, m1, m2, k0, by omega, k2, by omega, k4.mono h1 (Nat.le_refl _), k5, fun hn => ?_⟩
    obtain ⟨b, vs, T, j1, j2, j3, j4, j5⟩ := k6 hn
    exact ⟨b, vs, T, j1, j2, by omega, j4, STO.mono us _ _ _ _ vs j5 (Nat.le_refl _) h2⟩
theorem STO.mono {W : World} : ∀ (l : List SV) (lo hi lo' hi' : Nat) (vs : List Value), STO W l lo hi vs → lo' ≤ lo → hi ≤ hi' → STO W l lo' hi' vs
  | [], _, _, _, _, _, h, _, _ => by unfold STO at h ⊢; exact h
  | s :: r, lo, hi, lo', hi', vs, h, h1, h2 => by
    unfold STO at h ⊢
    obtain ⟨m, cs, us, k1, k2, k3, k4, k5⟩ := h
    exact ⟨m, cs, us, by omega, by omega, k3, SOC.mono s _ _ _ _ cs k4 h1 (Nat.le_refl _), STO.mono r _ _ _ _ us k5 (Nat.le_refl _) h2⟩
end
theorem SO.mono {W : World} {lo hi lo' hi' : Nat} {A : Option Addr} {l : List SV} (h : SO W lo hi A l) (h1 : lo' ≤ lo) (h2 : hi ≤ hi') : SO W lo' hi' A l := fun h0 => by
  obtain ⟨b, vs, T, k1, k2, k3, k4, k5⟩ := h h0
  exact ⟨b, vs, T, k1, by omega, by omega, k4, k5.mono l _ _ _ _ vs (Nat.le_refl _) h2⟩
theorem NO.mono {W : World} {lo hi lo' hi' : Nat} {A : Option Addr} {r : List (List UInt8)} (h : NO W lo hi A r) (h1 : lo' ≤ lo) (h2 : hi ≤ hi') : NO W lo' hi' A r := fun h0 => by
  obtain ⟨b, T, k1, k2, k3, k4⟩ := h h0
  exact ⟨b, T, k1, by omega, by omega, k4⟩
theorem DOC.lohi {W : World} {d : DV} {lo hi : Nat} {cs : List Value} (h : DOC W d lo hi cs) : lo ≤ hi := by
  obtain ⟨A1, c1, A2, c2, m1, h0, h1, h2, -⟩ := h
  omega
theorem DOC.mono {W : World} {d : DV} {lo hi lo' hi' : Nat} {cs : List Value} (h : DOC W d lo hi cs) (h1 : lo' ≤ lo) (h2 : hi ≤ hi') : DOC W d lo' hi' cs := by
  obtain ⟨A1, c1, A2, c2, m1, k0, k1, k2, k3, k4⟩ := h
  exact ⟨A1, c1, A2, c2, m1, k0, by omega, by omega, k3.mono h1 (Nat.le_refl _), k4.mono (Nat.le_refl _) h2⟩
theorem DTO.mono {W : World} : ∀ (l : List DV) (lo hi lo' hi' : Nat) (vs : List Value), DTO W l lo hi vs → lo' ≤ lo → hi ≤ hi' → DTO W l lo' hi' vs
  | [], _, _, _, _, _, h, _, _ => by unfold DTO at h ⊢; exact h
  | s :: r, lo, hi, lo', hi', vs, h, h1, h2 => by
    unfold DTO at h ⊢
    obtain ⟨m, cs, us, k1, k2, k3, k4, k5⟩ := h
    exact ⟨m, cs, us, by omega, by omega, k3, k4.mono h1 (Nat.le_refl _), DTO.mono r _ _ _ _ us k5 (Nat.le_refl _) h2⟩
theorem DO.mono {W : World} {lo hi lo' hi' : Nat} {A : Option Addr} {l : List DV} (h : DO W lo hi A l) (h1 : lo' ≤ lo) (h2 : hi ≤ hi') : DO W lo' hi' A l := fun h0 => by
  obtain ⟨b, vs, T, k1, k2, k3, k4, k5⟩ := h h0
  exact ⟨b, vs, T, k1, by omega, by omega, k4, k5.mono l _ _ _ _ vs (Nat.le_refl _) h2⟩

/-! ### One more -/
theorem STO.snoc {W : World} {s : SV} {cs : List Value} : ∀ (l : List SV) (lo m m' hi : Nat) (vs : List Value), STO W l lo m vs → SOC W s m' hi cs → lo ≤ m → m ≤ m' → STO W (l ++ [s]) lo hi (vs ++ cs)
  | [], lo, m, m', hi, vs, h, hc, h1, h2 => by
    unfold STO at h
    subst h
    have := hc.lohi
    simp only [List.nil_append]
    unfold STO
    exact ⟨hi, cs, [], by omega, Nat.le_refl _, by simp, hc.mono s _ _ _ _ cs (by omega) (Nat.le_refl _), by unfold STO; rfl⟩
  | a :: r, lo, m, m', hi, vs, h, hc, h1, h2 => by
    have hl := hc.lohi
    simp only [List.cons_append]
    unfold STO at h ⊢
    obtain ⟨q, ds, us, k1, k2, rfl, k4, k5⟩ := h
    exact ⟨q, ds, us ++ cs, k1, by omega, by simp, k4, STO.snoc r q m m' hi us k5 hc k2 h2⟩
theorem DTO.snoc {W : World} {s : DV} {cs : List Value} : ∀ (l : List DV) (lo m m' hi : Nat) (vs : List Value), DTO W l lo m vs → DOC W s m' hi cs → lo ≤ m → m ≤ m' → DTO W (l ++ [s]) lo hi (vs ++ cs)
  | [], lo, m, m', hi, vs, h, hc, h1, h2 => by
    unfold DTO at h
    subst h
    have := hc.lohi
    simp only [List.nil_append]
    unfold DTO
    exact ⟨hi, cs, [], by omega, Nat.le_refl _, by simp, hc.mono (by omega) (Nat.le_refl _), by unfold DTO; rfl⟩
  | a :: r, lo, m, m', hi, vs, h, hc, h1, h2 => by
    have hl := hc.lohi
    simp only [List.cons_append]
    unfold DTO at h ⊢
    obtain ⟨q, ds, us, k1, k2, rfl, k4, k5⟩ := h
    exact ⟨q, ds, us ++ cs, k1, by omega, by simp, k4, DTO.snoc r q m m' hi us k5 hc k2 h2⟩

/-! ### Read -/
theorem XO.read {W : World} {lo hi : Nat} {A : Option Addr} {es : List XV} (h : XO W lo hi A es) : XR W A es := fun h0 => by
  obtain ⟨b, vs, T, rfl, h2, h3, h4, h5⟩ := h h0
  exact XR.of_block h4 (XL.sub (Sub.only _ _) h5) h0
mutual
theorem SOC.read {W : World} : ∀ (s : SV) (lo hi : Nat) (cs : List Value), SOC W s lo hi cs → SC W s cs
  | .mk k x es ts us l c, lo, hi, cs, h => by
    unfold SOC at h
    unfold SC
    obtain ⟨A1, c1, A2, c2, A3, c3, m1, m2, k0, k1, k2, k3, k4, k5, k6⟩ := h
    refine ⟨A1, c1, A2, c2, A3, c3, k0, k4.read, fun hn => ?_, fun hn => ?_⟩
    · obtain ⟨b, vs, T, rfl, _, _, j4, j5⟩ := k5 hn
      exact SR.of_block j4 (STO.read ts _ _ vs j5) hn
    · obtain ⟨b, vs, T, rfl, _, _, j4, j5⟩ := k6 hn
      exact SR.of_block j4 (STO.read us _ _ vs j5) hn
theorem STO.read {W : World} : ∀ (l : List SV) (lo hi : Nat) (vs : List Value), STO W l lo hi vs → SL W l vs
  | [], _, _, _, h => by unfold STO at h; unfold SL; exact h
  | s :: r, lo, hi, vs, h => by
    unfold STO at h
    unfold SL
    obtain ⟨m, cs, us, _, _, k3, k4, k5⟩ := h
    exact ⟨cs, us, k3, SOC.read s _ _ cs k4, STO.read r _ _ us k5⟩
end
theorem SO.read {W : World} {lo hi : Nat} {A : Option Addr} {l : List SV} (h : SO W lo hi A l) : SR W A l := fun h0 => by
  obtain ⟨b, vs, T, rfl, h2, h3, h4, h5⟩ := h h0
  exact SR.of_block h4 (h5.read l _ _ vs) h0
theorem NO.read {W : World} {lo hi : Nat} {A : Option Addr} {r : List (List UInt8)} (h : NO W lo hi A r) : RowS W A r.length r := by
  refine ⟨by simp [strs], fun hn => ?_⟩
  obtain ⟨b, T, rfl, h2, h3, h4⟩ := h (by rintro rfl; simp at hn)
  refine ⟨_, rfl, (Array.getElem?_eq_some_iff.1 h4).1, fun j u hu => ?_⟩
  rw [add_at, Nat.zero_add, cell_of_row _ _ j _ _ _ h4]
  simpa using hu
theorem DOC.read {W : World} {d : DV} {lo hi : Nat} {cs : List Value} (h : DOC W d lo hi cs) : DC W d cs := by
  obtain ⟨A1, c1, A2, c2, m1, k0, _, _, k3, k4⟩ := h
  exact ⟨A1, c1, A2, c2, k0, k3.read, k4.read⟩
theorem DTO.read {W : World} : ∀ (l : List DV) (lo hi : Nat) (vs : List Value), DTO W l lo hi vs → DL W l vs
  | [], _, _, _, h => by unfold DTO at h; unfold DL; exact h
  | s :: r, lo, hi, vs, h => by
    unfold DTO at h
    unfold DL
    obtain ⟨m, cs, us, _, _, k3, k4, k5⟩ := h
    exact ⟨cs, us, k3, k4.read, DTO.read r _ _ us k5⟩
theorem DO.read {W : World} {lo hi : Nat} {A : Option Addr} {l : List DV} (h : DO W lo hi A l) : DR W A l := fun h0 => by
  obtain ⟨b, vs, T, rfl, h2, h3, h4, h5⟩ := h h0
  exact DR.of_cells (h5.read l _ _ vs) (fun j v hj => by rw [cell_of_row _ _ j _ _ _ h4]; simpa using hj) h0
end

section
open Go.RowKit

/-- Cells stored one behind the other. -/
def setL (W : World) (b : Nat) : Nat → List Value → World
  | _, [] => W
  | o, v :: r => setL (W.setCell ⟨b, o, none⟩ v) b (o + 1) r
theorem set_mid {W : World} {b : Nat} {T : TypeId} {fr : Nat × Nat} {pre post : List Value} {z : Value} (h : W.heap[b]? = some (.cells (pre ++ z :: post).toArray T fr)) (v : Value) : (W.setCell ⟨b, pre.length, none⟩ v).heap[b]? = some (.cells (pre ++ v :: post).toArray T fr) := by
  simp [World.setCell, Array.getElem?_modify, h]
theorem setL_heap {b : Nat} {T : TypeId} {fr : Nat × Nat} {post : List Value} : ∀ (vs zs pre : List Value) (W : World), W.heap[b]? = some (.cells (pre ++ (zs ++ post)).toArray T fr) → zs.length = vs.length → (setL W b pre.length vs).heap[b]? = some (.cells (pre ++ (vs ++ post)).toArray T fr)
  | [], zs, pre, W, h, hl => by
    have : zs = [] := List.eq_nil_of_length_eq_zero (by simpa using hl)
    subst this
    exact h
  | v :: r, [], pre, W, h, hl => by simp at hl
  | v :: r, z :: zs, pre, W, h, hl => by
    have h1 := set_mid (pre := pre) (z := z) (post := zs ++ post) (by simpa using h) v
    have h2 := setL_heap r zs (pre ++ [v]) (W.setCell ⟨b, pre.length, none⟩ v) (by simpa using h1) (by simpa using hl)
    simp only [List.length_append, List.length_cons, List.length_nil, Nat.zero_add] at h2
    unfold setL
    rw [h2]
    simp
theorem setL_size (b : Nat) : ∀ (vs : List Value) (o : Nat) (W : World), (setL W b o vs).heap.size = W.heap.size
  | [], _, _ => rfl
  | v :: r, o, W => by
    unfold setL
    rw [setL_size b r]
    simp [World.setCell]
theorem setL_kp {b lo hi : Nat} (h : b < lo ∨ hi ≤ b) : ∀ (vs : List Value) (o : Nat) (W : World), Kp lo hi W (setL W b o vs)
  | [], _, W => ⟨Nat.le_refl _, fun _ _ _ => rfl⟩
  | v :: r, o, W => by
    unfold setL
    exact (Kp.set W v h).trans (setL_kp h r _ _)
theorem setL_below {b B : Nat} {w : World} (h : B ≤ b) : ∀ (vs : List Value) (o : Nat) (W : World), Below B w W → Below B w (setL W b o vs)
  | [], _, _, hb => hb
  | v :: r, o, W, hb => by
    unfold setL
    exact setL_below h r _ _ (below_set1 hb h)

/-- Kinds of rows that are copied. -/
structure Kc (α : Type) where
  TO : World → List α → Nat → Nat → List Value → Prop
  CO : World → α → Nat → Nat → List Value → Prop
  z : Nat
  nil : ∀ W lo hi, TO W [] lo hi []
  keep : ∀ {W W' : World} {es lo hi vs}, TO W es lo hi vs → Kp lo hi W W' → TO W' es lo hi vs
  ckeep : ∀ {W W' : World} {e lo hi cs}, CO W e lo hi cs → Kp lo hi W W' → CO W' e lo hi cs
  mono : ∀ {W : World} {es lo hi hi' vs}, TO W es lo hi vs → hi ≤ hi' → TO W es lo hi' vs
  snoc : ∀ {W : World} {es e lo m m' hi vs cs}, TO W es lo m vs → CO W e m' hi cs → lo ≤ m → m ≤ m' → m' ≤ hi → TO W (es ++ [e]) lo hi (vs ++ cs)
  len : ∀ {W : World} {es lo hi vs}, TO W es lo hi vs → vs.length = es.length * z
  clen : ∀ {W : World} {e lo hi cs}, CO W e lo hi cs → cs.length = z
def kcX : Kc XV := { TO := fun W es lo hi vs => XL (only W (frI lo hi)) es vs, CO := fun W e lo hi cs => XC (only W (frI lo hi)) e cs, z := 7, nil := fun _ _ _ => rfl, keep := fun h k => XL.sub (frI_kp k) h, ckeep := fun h k => XC.sub (frI_kp k) _ _ h, mono := fun h k => XL.sub (frI_mono (Nat.le_refl _) k) h, snoc := fun h k h1 h2 h3 => XL.snoc (XL.sub (frI_mono (Nat.le_refl _) (by omega)) h) (XC.sub (frI_mono (by omega) (Nat.le_refl _)) _ _ k), len := fun h => h.len, clen := fun h => h.len }
def kcS : Kc SV := { TO := fun W es lo hi vs => STO W es lo hi vs, CO := fun W e lo hi cs => SOC W e lo hi cs, z := 7, nil := fun _ _ _ => by unfold STO; rfl, keep := fun h k => STO.keep _ _ _ _ h k, ckeep := fun h k => SOC.keep _ _ _ _ h k, mono := fun h k => STO.mono _ _ _ _ _ _ h (Nat.le_refl _) k, snoc := fun h k h1 h2 _ => STO.snoc _ _ _ _ _ _ h k h1 h2, len := fun h => (STO.read _ _ _ _ h).len, clen := fun h => (SOC.read _ _ _ _ h).len }
def kcD : Kc DV := { TO := fun W es lo hi vs => DTO W es lo hi vs, CO := fun W e lo hi cs => DOC W e lo hi cs, z := 9, nil := fun _ _ _ => by unfold DTO; rfl, keep := fun h k => DTO.keep _ _ _ _ h k, ckeep := fun h k => DOC.keep h k, mono := fun h k => DTO.mono _ _ _ _ _ _ h (Nat.le_refl _) k, snoc := fun h k h1 h2 _ => DTO.snoc _ _ _ _ _ _ h k h1 h2, len := fun h => (DTO.read _ _ _ _ h).len, clen := fun h => (DOC.read h).len }
def kcN : Kc (List UInt8) := { TO := fun _ es _ _ vs => vs = strs es, CO := fun _ e _ _ cs => cs = [.string ⟨e.toArray⟩], z := 1, nil := fun _ _ _ => rfl, keep := fun h _ => h, ckeep := fun h _ => h, mono := fun h _ => h, snoc := fun h k _ _ _ => by subst h k; simp [strs], len := fun h => by subst h; simp [strs], clen := fun h => by subst h; rfl }

/-- Between two rounds: so much of the row is filled. -/
def CpSt {α : Type} (K : Kc α) (w : World) (b : Nat) (T : TypeId) (n : Nat) (done : List α) (W : World) : Prop :=
  ∃ vs zs, W.heap[b]? = some (.cells (vs ++ zs : List Value).toArray T (0, 0)) ∧ zs.length = (n - done.length) * K.z ∧ K.TO W done (b + 1) W.heap.size vs ∧ Below w.heap.size w W ∧ w.heap.size ≤ b ∧ b < W.heap.size ∧ done.length ≤ n
section
variable {α : Type} {K : Kc α} {w W W' : World} {b : Nat} {T : TypeId} {n : Nat} {done : List α}
theorem CpSt.start (K : Kc α) (w : World) (T : TypeId) (n : Nat) (zc : Array Value) (h : zc.size = n * K.z) : CpSt K w w.heap.size T n [] (w.alloc (.cells zc T)) :=
  ⟨[], zc.toList, by rw [heap_alloc_new]; simp, by simpa using h, K.nil _ _ _, bnew5 _ _, Nat.le_refl _, by simp, by simp⟩
theorem CpSt.bel (h : CpSt K w b T n done W) : Below w.heap.size w W := h.choose_spec.choose_spec.2.2.2.1
theorem CpSt.step (h : CpSt K w b T n done W) (hb : Below W.heap.size W W') : CpSt K w b T n done W' := by
  obtain ⟨vs, zs, h1, h2, h3, h4, h5, h6, h7⟩ := h
  exact ⟨vs, zs, (hb.block b h6).trans h1, h2, K.mono (K.keep h3 (Kp.of_below hb (Nat.le_refl _))) hb.size, bth5 h4 hb, h5, Nat.lt_of_lt_of_le h6 hb.size, h7⟩
theorem CpSt.cells (h : CpSt K w b T n done W) (hlt : done.length < n) {j : Nat} (hj : j < K.z) : (∃ z, W.cell? ⟨b, done.length * K.z + j, none⟩ = some z) ∧ W.frozen? ⟨b, done.length * K.z + j, none⟩ = false := by
  obtain ⟨vs, zs, h1, h2, h3, h4, h5, h6, h7⟩ := h
  have hl := K.len h3
  have hz : K.z ≤ zs.length := by
    rw [h2]
    exact Nat.le_mul_of_pos_left _ (by omega)
  refine ⟨⟨zs[j]'(by omega), ?_⟩, by simp [World.frozen?, h1]⟩
  rw [cell_of_row _ _ _ _ _ _ h1]
  simp only [List.getElem?_toArray]
  rw [List.getElem?_append_right (by omega), hl, Nat.add_sub_cancel_left]
  exact List.getElem?_eq_getElem _
theorem CpSt.put (h : CpSt K w b T n done W) (hlt : done.length < n) (hb : Below W.heap.size W W') {e : α} {cs : List Value} (hc : K.CO W' e W.heap.size W'.heap.size cs) {o : Nat} (ho : o = done.length * K.z) : CpSt K w b T n (done ++ [e]) (setL W' b o cs) := by
  subst ho
  obtain ⟨vs, zs, h1, h2, h3, h4, h5, h6, h7⟩ := h.step hb
  obtain ⟨vs', zs', k1, k2, k3, k4, k5, k6, k7⟩ := h
  have hl := K.len h3
  have hcl := K.clen hc
  have hz : zs.length = K.z + (n - (done.length + 1)) * K.z := by
    rw [h2, show n - done.length = (n - (done.length + 1)) + 1 by omega, Nat.add_one_mul, Nat.add_comm]
  have hsz := hb.size
  have e1 : vs ++ zs = vs ++ (zs.take K.z ++ zs.drop K.z) := by rw [List.take_append_drop]
  rw [e1] at h1
  have h8 := setL_heap cs (zs.take K.z) vs W' h1 (by rw [List.length_take, hcl]; omega)
  rw [hl] at h8
  refine ⟨vs ++ cs, zs.drop K.z, by rw [h8]; simp, ?_, ?_, setL_below h5 _ _ _ h4, h5, by rw [setL_size]; exact h6, by simp; omega⟩
  · rw [List.length_drop, hz, Nat.add_sub_cancel_left, List.length_append]
    rfl
  · rw [setL_size]
    have hvs : vs' = vs := by
      have e2 := (hb.block b k6).trans k1
      rw [e2] at h1
      injection h1 with h1
      injection h1 with h1 _ _
      have h1 : vs' ++ zs' = vs ++ (zs.take K.z ++ zs.drop K.z) := by simpa using h1
      have := K.len k3
      exact (List.append_inj h1 (by omega)).1
    subst hvs
    exact K.snoc (K.keep (K.keep k3 (Kp.of_below hb (Nat.le_refl _))) (setL_kp (Or.inl (Nat.lt_succ_self b)) _ _ _)) (K.ckeep hc (setL_kp (Or.inl k6) _ _ _)) (by omega) (Nat.le_refl _) hsz
theorem CpSt.fin (h : CpSt K w b T n done W) (hn : done.length = n) : ∃ vs, w.heap.size ≤ b ∧ b < W.heap.size ∧ W.heap[b]? = some (.cells (vs : List Value).toArray T (0, 0)) ∧ K.TO W done (b + 1) W.heap.size vs := by
  obtain ⟨vs, zs, h1, h2, h3, h4, h5, h6, h7⟩ := h
  have : zs = [] := List.eq_nil_of_length_eq_zero (by rw [h2, hn]; simp)
  subst this
  exact ⟨vs, h5, h6, by simpa using h1, h3⟩
end
end
end Go.Proofs.YtkmioieanopafaaDoor
