/- The contracts of nat's limbByLimb, Add, Sub. The contracts of nat's addTimes, Mul. The contracts of nat's caps: allows, Fits, hold, Add, Mul. The contracts of the cap's Mul. -/
import Derived.Test.YtijliimiojjjdaaDoorGNatA
import Derived.Deep.RegionHeld3
import Derived.Deep.RegionWith
import Derived.Deep.LoopGhost
import Derived.Deep.Cut
import Derived.Deep.CutRange
import Derived.Deep.DeepCutAuto
namespace Go.Proofs.YtijliimiojjjdaaDoor
section
open Go.RowKit

theorem drewN_one (w : World) : w.drew = w.drewN 1 := rfl

/-- What stands in memory while limbByLimb's loop runs. -/
structure LbL (w : World) (A : Option Addr) (n c : Nat) (A' : Option Addr) (n' c' : Nat) (l m : List Nat) (g cv : Nat) (L : List Nat) (wr : World) : Prop where
  boxA : wr.cell? ⟨w.heap.size, 0, none⟩ = some (.slice A n c)
  boxB : wr.cell? ⟨w.heap.size + 1, 0, none⟩ = some (.slice A' n' c')
  res : wr.cell? ⟨w.heap.size + 1 + 1, 0, none⟩ = some (.slice none 0 0)
  resF : wr.frozen? ⟨w.heap.size + 1 + 1, 0, none⟩ = false
  rowA : Row wr g .u64 A n l
  rowB : Row wr g .u64 A' n' m
  carry : wr.cell? ⟨g, 0, none⟩ = some (.int .u64 cv)
  carryF : wr.frozen? ⟨g, 0, none⟩ = false
  made : Blk wr (w.heap.size + 1 + 1 + 1) 78 .u64 L
  grown : w.grownBy wr (some g)
  size : w.heap.size + 4 ≤ wr.heap.size
  low : g < w.heap.size

section
variable {w wr w' : World} {A A' : Option Addr} {n c n' c' g cv : Nat} {l m L : List Nat}
theorem LbL.below (h : LbL w A n c A' n' c' l m g cv L wr) (hb : Below wr.heap.size wr w') : LbL w A n c A' n' c' l m g cv L w' := by
  have hs := h.size
  have hl := h.low
  have hgr := h.grown
  exact ⟨(hb.cell (p := ⟨_, _, _⟩) (by simp; omega)).trans h.boxA, (hb.cell (p := ⟨_, _, _⟩) (by simp; omega)).trans h.boxB, (hb.cell (p := ⟨_, _, _⟩) (by simp; omega)).trans h.res, (hb.frozen (p := ⟨_, _, _⟩) (by simp; omega)).trans h.resF,
    h.rowA.below (hb.mono (by omega)), h.rowB.below (hb.mono (by omega)), (hb.cell (p := ⟨_, _, _⟩) (by simp; omega)).trans h.carry, (hb.frozen (p := ⟨_, _, _⟩) (by simp; omega)).trans h.carryF, h.made.below hb (by omega),
    ⟨hb.os.trans hgr.os, hb.tape.trans hgr.tape, hb.output.trans hgr.output, Nat.le_trans hgr.size hb.size, fun i hi hn => (hb.block i (by omega)).trans (hgr.block i hi hn)⟩, Nat.le_trans hs hb.size, hl⟩
theorem LbL.rows (h : LbL w A n c A' n' c' l m g cv L wr) : Row wr wr.heap.size .u64 A n l ∧ Row wr wr.heap.size .u64 A' n' m :=
  ⟨h.rowA.more (by have := h.size; have := h.low; omega), h.rowB.more (by have := h.size; have := h.low; omega)⟩
theorem Row.setFar {B k : Nat} {kd : IntKind} {A : Option Addr} {l : List Nat} {wr : World} (h : Row wr B kd A k l) {p : Addr} (hp : B ≤ p.block) (u : Value) : Row (wr.setCell p u) B kd A k l := Reads.setCell h hp u
theorem LbL.carried (h : LbL w A n c A' n' c' l m g cv L wr) (x : Nat) : LbL w A n c A' n' c' l m g x L (wr.setCell ⟨g, 0, none⟩ (.int .u64 (x : Int))) := by
  have hs := h.size
  have hl := h.low
  have hgr := h.grown
  have ne : ∀ b o, g < b → (⟨g, 0, none⟩ : Addr) ≠ ⟨b, o, none⟩ := fun b o hb e => by injection e with e; omega
  refine ⟨(World.cell?_setCell_other _ _ _ _ (ne _ _ (by omega))).trans h.boxA, (World.cell?_setCell_other _ _ _ _ (ne _ _ (by omega))).trans h.boxB, (World.cell?_setCell_other _ _ _ _ (ne _ _ (by omega))).trans h.res, ?_, h.rowA.setFar (Nat.le_refl _) _, h.rowB.setFar (Nat.le_refl _) _,
    World.cell?_setCell_same _ _ _ h.carry, ?_, h.made.far (by simp; omega) _, ⟨hgr.os, hgr.tape, hgr.output, by simpa [World.setCell] using hgr.size, fun i hi hne => (Below.heap_setCell _ _ _ i (fun e => hne (by simp at e; rw [e]))).trans (hgr.block i hi hne)⟩, by simpa [World.setCell] using hs, hl⟩
  · simpa using h.resF
  · simpa using h.carryF
theorem LbL.stored (h : LbL w A n c A' n' c' l m g cv L wr) (i x : Nat) : LbL w A n c A' n' c' l m g cv (L.set i x) (wr.setCell ⟨w.heap.size + 1 + 1 + 1, i, none⟩ (.int .u64 (x : Int))) := by
  have hs := h.size
  have hl := h.low
  have hgr := h.grown
  have ne : ∀ b o, b < w.heap.size + 1 + 1 + 1 → (⟨w.heap.size + 1 + 1 + 1, i, none⟩ : Addr) ≠ ⟨b, o, none⟩ := fun b o hb e => by injection e with e; omega
  refine ⟨(World.cell?_setCell_other _ _ _ _ (ne _ _ (by omega))).trans h.boxA, (World.cell?_setCell_other _ _ _ _ (ne _ _ (by omega))).trans h.boxB, (World.cell?_setCell_other _ _ _ _ (ne _ _ (by omega))).trans h.res, ?_, h.rowA.setFar (by simp; omega) _, h.rowB.setFar (by simp; omega) _,
    (World.cell?_setCell_other _ _ _ _ (ne _ _ (by omega))).trans h.carry, ?_, h.made.set_ i x, ⟨hgr.os, hgr.tape, hgr.output, by simpa [World.setCell] using hgr.size, fun j hj hne => (Below.heap_setCell _ _ _ j (by simp; omega)).trans (hgr.block j hj hne)⟩, by simpa [World.setCell] using hs, hl⟩
  · simpa using h.resF
  · simpa using h.carryF
end

theorem grown_one {W w1 : World} {g : Nat} (hb : W.grownBy w1 (some g)) {b o : Nat} {v : Value} (hne : b ≠ g) (hc : W.cell? ⟨b, o, none⟩ = some v) (hf : W.frozen? ⟨b, o, none⟩ = false) : w1.cell? ⟨b, o, none⟩ = some v ∧ w1.frozen? ⟨b, o, none⟩ = false := by
  have hlt : b < W.heap.size := World.block_lt_of_cell? W ⟨b, o, none⟩ hc
  have e := hb.block b hlt (fun e => hne (by injection e))
  exact ⟨(World.cell?_of_block (a := ⟨b, o, none⟩) e).trans hc, (World.frozen?_of_block (a := ⟨b, o, none⟩) e).trans hf⟩
end

section
open Go.RowKit

def tLo (x y r c : Nat) : Nat := addLo r (addLo (mulLo x y) c 0) 0
def tMid (x y c : Nat) : Nat := mulHi x y + addHi (mulLo x y) c 0
def tHi (x y r c : Nat) : Nat := tMid x y c + addHi r (addLo (mulLo x y) c 0) 0
theorem tLo_lt (x y r c : Nat) : tLo x y r c < LB := addLo_lt _ _ _
theorem t_split (x y r c : Nat) : tLo x y r c + LB * tHi x y r c = x * y + c + r := by
  have h1 := mul_split x y
  have h2 := add_split (mulLo x y) c 0
  have h3 := add_split r (addLo (mulLo x y) c 0) 0
  unfold tLo tHi tMid
  rw [Nat.mul_add, Nat.mul_add]
  omega
theorem tHi_lt (x y r c : Nat) (hx : x < LB) (hy : y < LB) (hr : r < LB) (hc : c < LB) : tHi x y r c < LB := by
  have h := t_split x y r c
  have h1 : x * y ≤ (LB - 1) * (LB - 1) := Nat.mul_le_mul (by omega) (by omega)
  have h2 : (LB - 1) * (LB - 1) + 2 * (LB - 1) < LB * LB := by unfold LB; omega
  rcases Nat.lt_or_ge (tHi x y r c) LB with h3 | h3
  · exact h3
  · have : LB * LB ≤ LB * tHi x y r c := Nat.mul_le_mul_left _ h3
    omega
theorem tMid_le (x y r c : Nat) : tMid x y c ≤ tHi x y r c := Nat.le_add_right _ _
theorem wrap_nat {a b s : Nat} (e : a + b = s) (h : s < LB) : IntKind.u64.wrap ((a : Int) + (b : Int)) = (s : Int) := by
  unfold LB at h
  rw [IntKind.wrap_u64]; omega

/-- The row's state in addTimes' loop. -/
def AT (w : World) (G : Nat) (L : List Nat) (wr : World) : Prop := Blk wr G 78 .u64 L ∧ w.grownBy wr (some G)

/-- What stands in memory while Mul's loop runs. -/
structure MuL (w : World) (A' : Option Addr) (n' c' : Nat) (l m : List Nat) (A : Option Addr) (n : Nat) (L : List Nat) (wr : World) : Prop where
  boxB : wr.cell? ⟨w.heap.size + 1, 0, none⟩ = some (.slice A' n' c')
  res : wr.cell? ⟨w.heap.size + 1 + 1, 0, none⟩ = some (.slice none 0 0)
  resF : wr.frozen? ⟨w.heap.size + 1 + 1, 0, none⟩ = false
  rowA : Row wr w.heap.size .u64 A n l
  rowB : Row wr w.heap.size .u64 A' n' m
  made : Blk wr (w.heap.size + 1 + 1 + 1) 78 .u64 L
  below : Below w.heap.size w wr
  size : w.heap.size + 4 ≤ wr.heap.size

theorem MuL.drew {w : World} {A' : Option Addr} {n' c' : Nat} {l m : List Nat} {A : Option Addr} {n : Nat} {L : List Nat} {wr : World} (h : MuL w A' n' c' l m A n L wr) : MuL w A' n' c' l m A n L wr.drew :=
  ⟨h.boxB, h.res, h.resF, h.rowA, h.rowB, h.made, h.below.drew, h.size⟩
theorem MuL.times {w : World} {A' : Option Addr} {n' c' : Nat} {l m : List Nat} {A : Option Addr} {n : Nat} {L L' : List Nat} {wr w' : World} (h : MuL w A' n' c' l m A n L wr) (hb : Blk w' (w.heap.size + 1 + 1 + 1) 78 .u64 L') (hg : wr.grownBy w' (some (w.heap.size + 1 + 1 + 1))) : MuL w A' n' c' l m A n L' w' := by
  have hs := h.size
  have hc : ∀ b o, b < w.heap.size + 1 + 1 + 1 → w'.cell? ⟨b, o, none⟩ = wr.cell? ⟨b, o, none⟩ := fun b o hlt => World.cell?_of_block (a := ⟨b, o, none⟩) (hg.block b (by omega) (fun e => by injection e; omega))
  have hf : ∀ b o, b < w.heap.size + 1 + 1 + 1 → w'.frozen? ⟨b, o, none⟩ = wr.frozen? ⟨b, o, none⟩ := fun b o hlt => World.frozen?_of_block (a := ⟨b, o, none⟩) (hg.block b (by omega) (fun e => by injection e; omega))
  have hbl : Below w.heap.size wr w' := ⟨hg.os, hg.tape, hg.output, hg.size, fun i hi => hg.block i (by omega) (fun e => by injection e; omega)⟩
  exact ⟨(hc _ _ (by omega)).trans h.boxB, (hc _ _ (by omega)).trans h.res, (hf _ _ (by omega)).trans h.resF, h.rowA.below hbl, h.rowB.below hbl, hb, h.below.trans hbl, Nat.le_trans hs hg.size⟩
end

section
open Go.RowKit

/-- How many limbs a cap allows; what fits. -/
def capN (c : Int) : Nat := (max c 0).toNat
def Fit (c : Int) (N : Nat) : Prop := N < LB ^ capN c
theorem Fit.mono {c : Int} {M N : Nat} (h : Fit c N) (hle : M ≤ N) : Fit c M := Nat.lt_of_le_of_lt hle h
theorem Num.fit {w : World} {b n c' N : Nat} {A : Option Addr} (h : Num w b A n c' N) (c : Int) : n ≤ capN c ↔ Fit c N := by
  obtain ⟨l, h1, h2, h3, h4, _⟩ := h
  rw [h1.len, ← h4]
  exact Dig.len_le_iff (by unfold LB; omega) h2 h3 _
theorem Fit.zero (c : Int) : Fit c 0 := Nat.pow_pos LB_pos
end

section
open Go.RowKit

theorem Num.pow_le {w : World} {b n c N : Nat} {A : Option Addr} (h : Num w b A n c N) (hn : 0 < n) : LB ^ (n - 1) ≤ N := by
  obtain ⟨l, h1, h2, _, h4, _⟩ := h
  have hl := h1.len
  have := Dig.norm_pos (b := LB) h2 (by omega)
  rw [h4, ← hl] at this
  exact this
theorem Num.zero_iff {w : World} {b n c N : Nat} {A : Option Addr} (h : Num w b A n c N) : n = 0 ↔ N = 0 := by
  constructor
  · rintro rfl
    obtain ⟨l, h1, _, _, h4, _⟩ := h
    have : l = [] := List.eq_nil_of_length_eq_zero h1.len.symm
    rw [← h4, this]; rfl
  · rintro rfl
    rcases Nat.eq_zero_or_pos n with h0 | h0
    · exact h0
    · have := h.pow_le h0
      have := Nat.pow_pos (n := n - 1) LB_pos
      omega
theorem mul_pow_le {w : World} {b n c M b' n' c' N : Nat} {A A' : Option Addr} (hM : Num w b A n c M) (hN : Num w b' A' n' c' N) (h1 : 0 < n) (h2 : 0 < n') : LB ^ (n + n' - 2) ≤ M * N := by
  have e : n + n' - 2 = (n - 1) + (n' - 1) := by omega
  rw [e, Nat.pow_add]
  exact Nat.mul_le_mul (hM.pow_le h1) (hN.pow_le h2)
theorem fit_len {w : World} {b n c M b' n' c' N : Nat} {A A' : Option Addr} (c0 : Int) (hM : Num w b A n c M) (hN : Num w b' A' n' c' N) (h1 : 0 < n) (h2 : 0 < n') (h : Fit c0 (M * N)) : n + n' - 1 ≤ capN c0 := by
  have h3 := mul_pow_le hM hN h1 h2
  have h4 : LB ^ (n + n' - 2) < LB ^ capN c0 := Nat.lt_of_le_of_lt h3 h
  have := (Nat.pow_lt_pow_iff_right (show 1 < LB by unfold LB; omega)).1 h4
  omega
end
end Go.Proofs.YtijliimiojjjdaaDoor
