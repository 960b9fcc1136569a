/- The contracts of the reference's Cmp and Lines of layer 4, and of the comparison of two rows of texts. -/
import Derived.Test.YtkmioieanopafaaDoorPosJ
import Derived.Deep.QuietTactic
import Derived.BigQuiet
namespace Go.Proofs.YtkmioieanopafaaDoor
open Go.RowKit

/-- How two positions are compared. -/
def posCmp (l c l' c' : Int) : Int := if l = l' ∧ c = c' then 0 else if l < l' ∨ (l = l' ∧ c < c') then -1 else 1

/-- Texts, as values. -/
def strs (r : List (List UInt8)) : List Value := r.map fun l => .string ⟨l.toArray⟩
theorem strs_oneCell (r : List (List UInt8)) : ∀ u ∈ strs r, u.oneCell' = true := by
  intro u hu
  obtain ⟨x, _, rfl⟩ := List.mem_map.1 hu
  rfl
theorem info_str : (Tryd.prog.info? 9).map (fun i => (i.zero, i.size, i.bytes)) = some (some (.string ByteArray.empty), 1, 16) := by kernel_rfl

/-- A row of the call's own, of texts; nothing that stood before has turned. -/
def GrowS (w : World) (v : Value) (r : List (List UInt8)) (W : World) : Prop := W.ownsRow w.heap.size 9 1 v r.length (strs r) ∧ Below w.heap.size w W
theorem GrowS.start (w : World) : GrowS w (.slice none 0 0) [] w := ⟨World.ownsRow_nil _ _ _ _, Below.refl _ _⟩

theorem wpList_pushS {ops : Array Oper} {rest : List Oper} {o : Oper} {a : Act} {Q : Exit → Act → World → Prop} (hgd : o.guard = none) (s x : Operand)
    (ho : o.op = .call { callee := .builtin .append, args := #[s, x], argTypes := #[28, 28] })
    (v : Value) (r : List (List UInt8)) (y : List UInt8) (z : ByteArray) (w0 wr : World) (hs : a.eval s = v) (hg : GrowS w0 v r wr) (hx : a.eval x = .slice (some ⟨wr.heap.size, 0, none⟩) 1 1) (hz : z = ⟨y.toArray⟩) (hlen : r.length ≤ 1000000000)
    (h : ∀ v' w1, GrowS w0 v' (r ++ [y]) w1 → wpList Tryd.prog ops Q rest (a.put o.dst v') w1) : wpList Tryd.prog ops Q (o :: rest) a (wr.alloc (.cells #[.string z] 9)) := by
  subst hz
  obtain ⟨i0, hi0, hz0, hz1, hz2⟩ := info_parts info_str
  have hr : Reads (wr.alloc (.cells #[.string ⟨y.toArray⟩] 9)) (wr.heap.size + 1) 1 (some ⟨wr.heap.size, 0, none⟩) 1 (strs [y]) :=
    ⟨by simp [strs], fun _ => ⟨_, rfl, by simp, fun j u hu => by
      match j with
      | 0 => simp [strs] at hu; subst hu; simp [Addr.add]
      | j + 1 => simp [strs] at hu⟩⟩
  have hsz := hg.2.size
  refine wpList_append_any _ hgd s x 28 ho w0.heap.size 9 i0 _ 1 16 Tryd.underlying28 hi0 hz0 hz1 hz2 rfl (by omega) v r.length (strs r) hs (hg.1.alloc _) (wr.heap.size + 1) (some ⟨wr.heap.size, 0, none⟩) 1 1 (strs [y]) hx hr (strs_oneCell _)
    (by unfold maxLen; omega) (by omega) (by simp; omega) ?_
  intro v' w1 hown' hg' _
  refine h v' w1 ⟨by simpa [strs] using hown', (hg.2.alloc hsz _).grown hg' (by simp; omega) (fun g hgk => (hg.1.lt g hgk).1)⟩

theorem below_drewN_ {B : Nat} {a w : World} (h : Below B a w) (n : Nat) : Below B a (w.drewN n) := ⟨h.os, h.tape, h.output, h.size, h.block⟩

/-- A slice that reads as texts. -/
def RowS (W : World) (A : Option Addr) (n : Nat) (r : List (List UInt8)) : Prop := Reads W W.heap.size 1 A n (strs r)
theorem RowS.len {W : World} {A : Option Addr} {n : Nat} {r : List (List UInt8)} (h : RowS W A n r) : n = r.length := by have := h.1; simp [strs] at this; omega
theorem RowS.below {W W' : World} {A : Option Addr} {n : Nat} {r : List (List UInt8)} (h : RowS W A n r) (hb : Below W.heap.size W W') : RowS W' A n r := (Reads.below h hb).more hb.size
theorem GrowS.row {w W : World} {v : Value} {r : List (List UInt8)} (h : GrowS w v r W) : ∃ A c, v = .slice A r.length c ∧ RowS W A r.length r := by
  rcases h.1.2 with ⟨hv, h0⟩ | ⟨g, cap, cur, hv, _⟩
  · have hr : r = [] := List.eq_nil_of_length_eq_zero h0
    subst hr
    exact ⟨none, 0, hv, Reads.none_⟩
  · exact ⟨some ⟨g, 0, none⟩, cap, hv, by have := h.1; rw [hv] at this; exact Reads.of_own this⟩
theorem RowS.at_ {W : World} {A : Option Addr} {n : Nat} {r : List (List UInt8)} (h : RowS W A n r) {i : Nat} (hi : i < n) : ∃ ad l, A = some ad ∧ r[i]? = some l ∧ W.cell? (ad.add i) = some (.string ⟨l.toArray⟩) := by
  obtain ⟨ad, u, e, _, hx, hc⟩ := Reads.at_ h hi
  have hl := h.len
  refine ⟨ad, r[i]'(by omega), e, List.getElem?_eq_getElem (by omega), ?_⟩
  rw [hc]
  have : (strs r)[i]? = some (.string ⟨(r[i]'(by omega)).toArray⟩) := by simp [strs]
  rw [this] at hx
  exact hx.symm

set_option maxHeartbeats 1000000 in
theorem kitSame {A A' : Option Addr} {n c c' : Nat} {r : List (List UInt8)} {w : World} (h : RowS w A n r) (h' : RowS w A' n r) (hn : n ≤ 1000000) :
    Calls Tryd.prog 11 #[.slice A n c, .slice A' n c'] w fun e w' => e = .returned (.bool true) ∧ Below w.heap.size w w' := by
  have hl := Lib.hid h.len
  go_enter Tryd.func11, Tryd.ntmps11
  go_wp2_with fail
  go_loopw [5] (fun v W => ∃ i : Nat, i ≤ n ∧ v = .int .i64 i ∧ ∃ q, W = w.drewN q) (fun v _ => n - (intOf v).toNat)
  case atStart => exact ⟨0, by omega, rfl, 0, rfl⟩
  case round =>
    obtain ⟨i, hi, rfl, q, rfl⟩ := hrel
    by_cases hlt : i < n
    · obtain ⟨ad, t, rfl, ht, hc1⟩ := h.at_ hlt
      obtain ⟨ad', t', rfl, ht', hc2⟩ := h'.at_ hlt
      rw [ht] at ht'
      injection ht' with ht'
      subst ht'
      have hlt' : (i : Int) < n := by omega
      generalize (⟨t.toArray⟩ : ByteArray) = b at *
      have hbb : (b.toList == b.toList) = true := by simp
      clear h h' ht
      go_wp2_with fail
      go_quiet (fail)
      go_wp2_with fail
      refine ⟨⟨i + 1, by omega, by go_num, _, rfl⟩, by simp [intOf]; omega⟩
    · obtain rfl : i = n := by omega
      have hlt' : ¬ (i : Int) < i := by omega
      go_wp2_with fail
      go_ret
      exact ⟨rfl, below_drewN_ (Below.refl _ _) q⟩
end Go.Proofs.YtkmioieanopafaaDoor
