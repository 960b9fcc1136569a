/- The law TokenCuts, over the interface. -/
import Derived.Test.YthlpldmodflmjaaDoorLawTa
namespace Go.Proofs.YthlpldmodflmjaaDoor
open Go.RowKit

theorem allF_len (f : Nat) (L : List UInt8) (p : Nat) (acc : List TokV) : (allF f L p acc).1.length ≤ acc.length + f := by
  induction f generalizing p acc with
  | zero => simp [allF]
  | succ f ih =>
    unfold allF
    simp only
    split
    · simp
    · split
      · simp; try omega
      · refine Nat.le_trans (ih _ _) ?_
        simp; omega
theorem allV_len (L : List UInt8) : (allV L).1.length ≤ L.length + 2 := by
  have := allF_len (L.length + 2) L 0 []
  simpa [allV] using this

/-- What TokenCuts keeps. -/
structure KC (w : World) (gf gt gg gx gh : Nat) (bf bt bg : List Value) (A : Option Addr) (r : List TokV) (W : World) : Prop where
  f : Box W gf bf
  t : Box W gt bt
  g : Box W gg bg
  x : Box W gx bt
  h : Box W gh bg
  row : RowT W A r.length r
  below : Below w.heap.size w W
theorem KC.step {w W W' : World} {gf gt gg gx gh : Nat} {bf bt bg : List Value} {A : Option Addr} {r : List TokV} (k : KC w gf gt gg gx gh bf bt bg A r W) (hb : Below W.heap.size W W') : KC w gf gt gg gx gh bf bt bg A r W' :=
  ⟨k.f.step hb, k.t.step hb, k.g.step hb, k.x.step hb, k.h.step hb, k.row.below hb, bth5 k.below hb⟩

/-- What its loop keeps. -/
structure KL (w : World) (gf : Nat) (bf : List Value) (A : Option Addr) (r : List TokV) (W : World) : Prop where
  f : Box W gf bf
  row : RowT W A r.length r
  below : Below w.heap.size w W
theorem KL.step {w W W' : World} {gf : Nat} {bf : List Value} {A : Option Addr} {r : List TokV} (k : KL w gf bf A r W) (hb : Below W.heap.size W W') : KL w gf bf A r W' := ⟨k.f.step hb, k.row.below hb, bth5 k.below hb⟩

/-- A row of tokens that may be written over. -/
def CA (W : World) (g o n : Nat) : Prop := ∀ i, i < n → ∀ k, k < 5 → (∃ v, W.cell? ⟨g, o + i * 5 + k, none⟩ = some v) ∧ W.frozen? ⟨g, o + i * 5 + k, none⟩ = false
theorem CA.step {W W' : World} {g o n : Nat} (h : CA W g o n) (hb : Below W.heap.size W W') : CA W' g o n := fun i hi k hk => by
  obtain ⟨⟨v, hv⟩, hf⟩ := h i hi k hk
  have hlt := World.block_lt_of_cell? W ⟨g, o + i * 5 + k, none⟩ hv
  exact ⟨⟨v, cst5 hb hv⟩, (hb.frozen (p := ⟨g, o + i * 5 + k, none⟩) hlt).trans hf⟩
theorem CA.set_ {W : World} {g o n : Nat} (h : CA W g o n) (p : Addr) (u : Value) : CA (W.setCell p u) g o n := fun i hi k hk => by
  obtain ⟨⟨v, hv⟩, hf⟩ := h i hi k hk
  refine ⟨?_, by simpa using hf⟩
  by_cases e : ⟨g, o + i * 5 + k, none⟩ = p
  · rw [e] at hv ⊢; exact ⟨u, World.cell?_setCell_same _ _ _ hv⟩
  · exact ⟨v, (World.cell?_setCell_other _ _ _ _ (fun h => e h.symm)).trans hv⟩
theorem add_lit_ (g o n : Nat) : Addr.add ⟨g, o, none⟩ n = ⟨g, o + n, none⟩ := by
  unfold Addr.add
  split <;> simp_all
/-- What a new row's address is, and that it may be written over. -/
theorem fresh_ca {W : World} {A : Option Addr} {B : Nat} {r : List TokV} (h : RowT W A r.length r) (hf : ∀ ad, A = some ad → (∃ g o, ad = ⟨g, o, none⟩) ∧ B ≤ ad.block ∧ ∀ j, j < r.length * 5 → W.frozen? (ad.add j) = false) : r.length = 0 ∨ ∃ g o, A = some ⟨g, o, none⟩ ∧ B ≤ g ∧ CA W g o r.length := by
  by_cases h0 : r.length = 0
  · exact Or.inl h0
  · right
    obtain ⟨ad, t, e, _⟩ := h.at_ (i := 0) (by omega)
    obtain ⟨⟨g, o, rfl⟩, hB, hz⟩ := hf ad e
    refine ⟨g, o, e, hB, fun i hi k hk => ⟨?_, ?_⟩⟩
    · obtain ⟨ad, t, e', ht, h0, h1, h2, h3, h4⟩ := h.at_ hi
      rw [e] at e'
      injection e' with e'
      subst e'
      rw [add_lit_] at h0 h1 h2 h3 h4
      match k, hk with
      | 0, _ => exact ⟨_, h0⟩
      | 1, _ => exact ⟨_, by rw [Nat.add_assoc]; exact h1⟩
      | 2, _ => exact ⟨_, by rw [Nat.add_assoc]; exact h2⟩
      | 3, _ => exact ⟨_, by rw [Nat.add_assoc]; exact h3⟩
      | 4, _ => exact ⟨_, by rw [Nat.add_assoc]; exact h4⟩
    · have := hz (i * 5 + k) (by omega)
      rw [add_lit_] at this
      rw [Nat.add_assoc]
      exact this
theorem below_set5 {B : Nat} {w W : World} (h : Below B w W) (g o : Nat) (hp : B ≤ g) (u0 u1 u2 u3 u4 : Value) : Below B w (((((W.setCell ⟨g, o, none⟩ u0).setCell ⟨g, o + 1, none⟩ u1).setCell ⟨g, o + 2, none⟩ u2).setCell ⟨g, o + 3, none⟩ u3).setCell ⟨g, o + 4, none⟩ u4) :=
  ((((h.setCell (p := ⟨g, o, none⟩) hp u0).setCell (p := ⟨g, o + 1, none⟩) hp u1).setCell (p := ⟨g, o + 2, none⟩) hp u2).setCell (p := ⟨g, o + 3, none⟩) hp u3).setCell (p := ⟨g, o + 4, none⟩) hp u4
theorem ca_set5 {W : World} {g0 o0 n : Nat} (h : CA W g0 o0 n) (g o : Nat) (u0 u1 u2 u3 u4 : Value) : CA (((((W.setCell ⟨g, o, none⟩ u0).setCell ⟨g, o + 1, none⟩ u1).setCell ⟨g, o + 2, none⟩ u2).setCell ⟨g, o + 3, none⟩ u3).setCell ⟨g, o + 4, none⟩ u4) g0 o0 n :=
  ((((h.set_ _ _).set_ _ _).set_ _ _).set_ _ _).set_ _ _

set_option maxHeartbeats 4000000 in
set_option maxRecDepth 100000 in
theorem cuts_any (hNx : TokNextC) (hAl : TokAllC) (s : ByteArray) (z : Int) (w : World) (hL : LaidR w) (hs : s.size ≤ 400) (hz : in64 z) :
    Calls Tryd.prog 3 #[.string s, .int .i64 z] w fun e w' => e = .returned (.bool true) ∧ Below w.heap.size w w' := by
  have hs4 : ¬ ((400 : Int) < s.size) := by omega
  have qa := refAll s (by omega) w
  have qn := fun w hL => hNx s z w hL (by omega) hz
  have qx := fun w => refNext s z (by omega) w
  have QL := Lib.hid (fun w hL => hAl s w hL (by omega))
  have hL0 := Lib.hid hL
  have QW := Lib.hid (fun w hL => works_tok hAl w hL)
  have hlen := allV_len s.data.toList
  have hsz := size_len_ s
  generalize allV s.data.toList = R at *
  obtain ⟨r, f0, f1, f2⟩ := R
  generalize nextV s.data.toList z = P at *
  obtain ⟨⟨tk, tx, tn, tl, tc⟩, nx, g0, g1, g2⟩ := P
  simp only [nextA, TokV.cells] at qa qn qx QL hlen
  clear hNx hAl hL
  go_enter Tryd.func3, Tryd.ntmps3
  go_wp2_with fail
  refine qa.mono ?_
  rintro e w1 ⟨v1, rfl, hg1⟩
  obtain ⟨A, c1, hv1, hr1⟩ := hg1.row
  subst hv1
  have hb1 := hg1.2
  clear qa hg1
  go_wp2_with fail
  refine (qn _ (hL0.out.below (bth5 hb1 (bnew5 _ _)))).mono ?_
  rintro e w2 ⟨rfl, hb2⟩
  clear qn
  go_wp2_with fail
  refine (qx _).mono ?_
  rintro e w3 ⟨rfl, hb3⟩
  clear qx
  have hbA := bnew5 w1 (.cells #[.int .i64 f0, .int .i64 f1, .int .i64 f2] 28)
  have hbB := bnew5 w2 (.cells #[.int .i64 tk, .string ⟨tx.toArray⟩, .int .i64 tn, .int .i64 tl, .int .i64 tc] 34)
  have hbC := bnew5 (w2.alloc (.cells #[.int .i64 tk, .string ⟨tx.toArray⟩, .int .i64 tn, .int .i64 tl, .int .i64 tc] 34)) (.cells #[.int .i64 g0, .int .i64 g1, .int .i64 g2] 36)
  have hbD := bnew5 w3 (.cells #[.int .i64 tk, .string ⟨tx.toArray⟩, .int .i64 tn, .int .i64 tl, .int .i64 tc] 40)
  have hbE := bnew5 (w3.alloc (.cells #[.int .i64 tk, .string ⟨tx.toArray⟩, .int .i64 tn, .int .i64 tl, .int .i64 tc] 40)) (.cells #[.int .i64 g0, .int .i64 g1, .int .i64 g2] 28)
  have hbBC := bth5 hbB hbC
  have hbDE := bth5 hbD hbE
  have kf := (((Box.new w1 [.int .i64 f0, .int .i64 f1, .int .i64 f2] 28).step hb2).step hbBC).step hb3 |>.step hbDE
  have kt := (((Box.new w2 [.int .i64 tk, .string ⟨tx.toArray⟩, .int .i64 tn, .int .i64 tl, .int .i64 tc] 34).step hbC).step hb3).step hbDE
  have kg0 := Box.new (w2.alloc (.cells #[.int .i64 tk, .string ⟨tx.toArray⟩, .int .i64 tn, .int .i64 tl, .int .i64 tc] 34)) [.int .i64 g0, .int .i64 g1, .int .i64 g2] 36
  rw [show (w2.alloc (.cells #[.int .i64 tk, .string ⟨tx.toArray⟩, .int .i64 tn, .int .i64 tl, .int .i64 tc] 34)).heap.size = w2.heap.size + 1 by simp] at kg0
  have kg := (kg0.step hb3).step hbDE
  have kx := (Box.new w3 [.int .i64 tk, .string ⟨tx.toArray⟩, .int .i64 tn, .int .i64 tl, .int .i64 tc] 40).step hbE
  have kh := Box.new (w3.alloc (.cells #[.int .i64 tk, .string ⟨tx.toArray⟩, .int .i64 tn, .int .i64 tl, .int .i64 tc] 40)) [.int .i64 g0, .int .i64 g1, .int .i64 g2] 28
  rw [show (w3.alloc (.cells #[.int .i64 tk, .string ⟨tx.toArray⟩, .int .i64 tn, .int .i64 tl, .int .i64 tc] 40)).heap.size = w3.heap.size + 1 by simp] at kh
  have hk0 : Hid (KC w w1.heap.size w2.heap.size (w2.heap.size + 1) w3.heap.size (w3.heap.size + 1) [.int .i64 f0, .int .i64 f1, .int .i64 f2] [.int .i64 tk, .string ⟨tx.toArray⟩, .int .i64 tn, .int .i64 tl, .int .i64 tc] [.int .i64 g0, .int .i64 g1, .int .i64 g2] A r ((w3.alloc (.cells #[.int .i64 tk, .string ⟨tx.toArray⟩, .int .i64 tn, .int .i64 tl, .int .i64 tc] 40)).alloc (.cells #[.int .i64 g0, .int .i64 g1, .int .i64 g2] 28))) :=
    ⟨kf, kt, kg, kx, kh, ((((hr1.below hbA).below hb2).below hbBC).below hb3).below hbDE, bth5 (bth5 (bth5 (bth5 (bth5 hb1 hbA) hb2) hbBC) hb3) hbDE⟩
  clear hbA hbB hbC hbD hbE hbBC hbDE kf kt kg0 kg kx kh hr1 hb1 hb2 hb3
  go_wp2_with fail
  generalize (w3.alloc (.cells #[.int .i64 tk, .string ⟨tx.toArray⟩, .int .i64 tn, .int .i64 tl, .int .i64 tc] 40)).alloc (.cells #[.int .i64 g0, .int .i64 g1, .int .i64 g2] 28) = W at *
  have hk := Lib.hid (hk0.out.step (Below.refl _ _).drew)
  clear hk0
  have s0 : W.drew.cell? ⟨w2.heap.size, 0, none⟩ = some (.int .i64 tk) ∧ W.drew.cell? ⟨w2.heap.size, 1, none⟩ = some (.string ⟨tx.toArray⟩) ∧ W.drew.cell? ⟨w2.heap.size, 2, none⟩ = some (.int .i64 tn) ∧ W.drew.cell? ⟨w2.heap.size, 3, none⟩ = some (.int .i64 tl) ∧ W.drew.cell? ⟨w2.heap.size, 4, none⟩ = some (.int .i64 tc) ∧ W.drew.cell? ⟨w2.heap.size + 1, 0, none⟩ = some (.int .i64 g0) ∧ W.drew.cell? ⟨w2.heap.size + 1, 1, none⟩ = some (.int .i64 g1) ∧ W.drew.cell? ⟨w2.heap.size + 1, 2, none⟩ = some (.int .i64 g2) ∧ W.drew.cell? ⟨w3.heap.size, 0, none⟩ = some (.int .i64 tk) ∧ W.drew.cell? ⟨w3.heap.size, 1, none⟩ = some (.string ⟨tx.toArray⟩) ∧ W.drew.cell? ⟨w3.heap.size, 2, none⟩ = some (.int .i64 tn) ∧ W.drew.cell? ⟨w3.heap.size, 3, none⟩ = some (.int .i64 tl) ∧ W.drew.cell? ⟨w3.heap.size, 4, none⟩ = some (.int .i64 tc) ∧ W.drew.cell? ⟨w3.heap.size + 1, 0, none⟩ = some (.int .i64 g0) ∧ W.drew.cell? ⟨w3.heap.size + 1, 1, none⟩ = some (.int .i64 g1) ∧ W.drew.cell? ⟨w3.heap.size + 1, 2, none⟩ = some (.int .i64 g2) := ⟨hk.out.t.five.1, hk.out.t.five.2.1, hk.out.t.five.2.2.1, hk.out.t.five.2.2.2.1, hk.out.t.five.2.2.2.2, hk.out.g.three.1, hk.out.g.three.2.1, hk.out.g.three.2.2, hk.out.x.five.1, hk.out.x.five.2.1, hk.out.x.five.2.2.1, hk.out.x.five.2.2.2.1, hk.out.x.five.2.2.2.2, hk.out.h.three.1, hk.out.h.three.2.1, hk.out.h.three.2.2⟩
  have qt := fun W => lawRefT tk ⟨tx.toArray⟩ tn tl tc W
  have qf := fun W => lawFaultT g0 g1 g2 W
  go_region_held3 (fun w' => w'.cell? ⟨w2.heap.size, 0, none⟩ = some (.int .i64 tk) ∧ w'.cell? ⟨w2.heap.size, 1, none⟩ = some (.string ⟨tx.toArray⟩) ∧ w'.cell? ⟨w2.heap.size, 2, none⟩ = some (.int .i64 tn) ∧ w'.cell? ⟨w2.heap.size, 3, none⟩ = some (.int .i64 tl) ∧ w'.cell? ⟨w2.heap.size, 4, none⟩ = some (.int .i64 tc) ∧ w'.cell? ⟨w2.heap.size + 1, 0, none⟩ = some (.int .i64 g0) ∧ w'.cell? ⟨w2.heap.size + 1, 1, none⟩ = some (.int .i64 g1) ∧ w'.cell? ⟨w2.heap.size + 1, 2, none⟩ = some (.int .i64 g2) ∧ w'.cell? ⟨w3.heap.size, 0, none⟩ = some (.int .i64 tk) ∧ w'.cell? ⟨w3.heap.size, 1, none⟩ = some (.string ⟨tx.toArray⟩) ∧ w'.cell? ⟨w3.heap.size, 2, none⟩ = some (.int .i64 tn) ∧ w'.cell? ⟨w3.heap.size, 3, none⟩ = some (.int .i64 tl) ∧ w'.cell? ⟨w3.heap.size, 4, none⟩ = some (.int .i64 tc) ∧ w'.cell? ⟨w3.heap.size + 1, 0, none⟩ = some (.int .i64 g0) ∧ w'.cell? ⟨w3.heap.size + 1, 1, none⟩ = some (.int .i64 g1) ∧ w'.cell? ⟨w3.heap.size + 1, 2, none⟩ = some (.int .i64 g2)) (first | with_reducible exact s0 | with_reducible exact s1 | with_reducible exact s2)
    (first
      | (go_at_call 11
         with_reducible refine (qt W.drew).mono ?_
         rintro e w4 ⟨rfl, hb4⟩
         have hk4 := Lib.hid (hk.out.step hb4)
         have s1 : w4.cell? ⟨w2.heap.size, 0, none⟩ = some (.int .i64 tk) ∧ w4.cell? ⟨w2.heap.size, 1, none⟩ = some (.string ⟨tx.toArray⟩) ∧ w4.cell? ⟨w2.heap.size, 2, none⟩ = some (.int .i64 tn) ∧ w4.cell? ⟨w2.heap.size, 3, none⟩ = some (.int .i64 tl) ∧ w4.cell? ⟨w2.heap.size, 4, none⟩ = some (.int .i64 tc) ∧ w4.cell? ⟨w2.heap.size + 1, 0, none⟩ = some (.int .i64 g0) ∧ w4.cell? ⟨w2.heap.size + 1, 1, none⟩ = some (.int .i64 g1) ∧ w4.cell? ⟨w2.heap.size + 1, 2, none⟩ = some (.int .i64 g2) ∧ w4.cell? ⟨w3.heap.size, 0, none⟩ = some (.int .i64 tk) ∧ w4.cell? ⟨w3.heap.size, 1, none⟩ = some (.string ⟨tx.toArray⟩) ∧ w4.cell? ⟨w3.heap.size, 2, none⟩ = some (.int .i64 tn) ∧ w4.cell? ⟨w3.heap.size, 3, none⟩ = some (.int .i64 tl) ∧ w4.cell? ⟨w3.heap.size, 4, none⟩ = some (.int .i64 tc) ∧ w4.cell? ⟨w3.heap.size + 1, 0, none⟩ = some (.int .i64 g0) ∧ w4.cell? ⟨w3.heap.size + 1, 1, none⟩ = some (.int .i64 g1) ∧ w4.cell? ⟨w3.heap.size + 1, 2, none⟩ = some (.int .i64 g2) := ⟨hk4.out.t.five.1, hk4.out.t.five.2.1, hk4.out.t.five.2.2.1, hk4.out.t.five.2.2.2.1, hk4.out.t.five.2.2.2.2, hk4.out.g.three.1, hk4.out.g.three.2.1, hk4.out.g.three.2.2, hk4.out.x.five.1, hk4.out.x.five.2.1, hk4.out.x.five.2.2.1, hk4.out.x.five.2.2.2.1, hk4.out.x.five.2.2.2.2, hk4.out.h.three.1, hk4.out.h.three.2.1, hk4.out.h.three.2.2⟩)
      | (go_at_call 12
         with_reducible refine (qf w4).mono ?_
         rintro e w5 ⟨rfl, hb5⟩
         have hk5 := Lib.hid (hk4.out.step hb5)
         have s2 : w5.cell? ⟨w2.heap.size, 0, none⟩ = some (.int .i64 tk) ∧ w5.cell? ⟨w2.heap.size, 1, none⟩ = some (.string ⟨tx.toArray⟩) ∧ w5.cell? ⟨w2.heap.size, 2, none⟩ = some (.int .i64 tn) ∧ w5.cell? ⟨w2.heap.size, 3, none⟩ = some (.int .i64 tl) ∧ w5.cell? ⟨w2.heap.size, 4, none⟩ = some (.int .i64 tc) ∧ w5.cell? ⟨w2.heap.size + 1, 0, none⟩ = some (.int .i64 g0) ∧ w5.cell? ⟨w2.heap.size + 1, 1, none⟩ = some (.int .i64 g1) ∧ w5.cell? ⟨w2.heap.size + 1, 2, none⟩ = some (.int .i64 g2) ∧ w5.cell? ⟨w3.heap.size, 0, none⟩ = some (.int .i64 tk) ∧ w5.cell? ⟨w3.heap.size, 1, none⟩ = some (.string ⟨tx.toArray⟩) ∧ w5.cell? ⟨w3.heap.size, 2, none⟩ = some (.int .i64 tn) ∧ w5.cell? ⟨w3.heap.size, 3, none⟩ = some (.int .i64 tl) ∧ w5.cell? ⟨w3.heap.size, 4, none⟩ = some (.int .i64 tc) ∧ w5.cell? ⟨w3.heap.size + 1, 0, none⟩ = some (.int .i64 g0) ∧ w5.cell? ⟨w3.heap.size + 1, 1, none⟩ = some (.int .i64 g1) ∧ w5.cell? ⟨w3.heap.size + 1, 2, none⟩ = some (.int .i64 g2) := ⟨hk5.out.t.five.1, hk5.out.t.five.2.1, hk5.out.t.five.2.2.1, hk5.out.t.five.2.2.2.1, hk5.out.t.five.2.2.2.2, hk5.out.g.three.1, hk5.out.g.three.2.1, hk5.out.g.three.2.2, hk5.out.x.five.1, hk5.out.x.five.2.1, hk5.out.x.five.2.2.1, hk5.out.x.five.2.2.2.1, hk5.out.x.five.2.2.2.2, hk5.out.h.three.1, hk5.out.h.three.2.1, hk5.out.h.three.2.2⟩))
  have hs0 : Hid (KL w w1.heap.size [.int .i64 f0, .int .i64 f1, .int .i64 f2] A r w5) := ⟨hk5.out.f, hk5.out.row, hk5.out.below⟩
  have hr400 : r.length ≤ 100000 := by omega
  clear s0 s1 s2 hk hk4 hb4 hb5 qt hk5 qf
  have qf := Lib.hid (fun W => lawFaultT f0 f1 f2 W)
  go_wp2_with fail
  go_loopw [13] (fun v W => ∃ t : Nat, t ≤ 2 ∧ v = .int .i64 t ∧ Hid (KL w w1.heap.size [.int .i64 f0, .int .i64 f1, .int .i64 f2] A r W)) (fun v _ => 2 - (intOf v).toNat)
  case atStart => exact ⟨0, by omega, rfl, hs0⟩
  case round =>
    obtain ⟨t, ht, rfl, hk⟩ := hrel
    clear hs0
    by_cases hlt : t < 2
    · have hlt' : (t : Int) < 2 := by omega
      go_wp2_with fail
      refine (QL.out wr (hL0.out.below hk.out.below)).mono ?_
      rintro e w6 ⟨v, rfl, A2, c2, rfl, hr2, hfr, hb6⟩
      have hca := Lib.hid (fresh_ca hr2 hfr)
      have hbN := bnew5 w6 (.cells #[.int .i64 f0, .int .i64 f1, .int .i64 f2] 36)
      have hst6 : Hid (KL w w1.heap.size [.int .i64 f0, .int .i64 f1, .int .i64 f2] A r (w6.alloc (.cells #[.int .i64 f0, .int .i64 f1, .int .i64 f2] 36)) ∧ Box (w6.alloc (.cells #[.int .i64 f0, .int .i64 f1, .int .i64 f2] 36)) w6.heap.size [.int .i64 f0, .int .i64 f1, .int .i64 f2] ∧ RowT (w6.alloc (.cells #[.int .i64 f0, .int .i64 f1, .int .i64 f2] 36)) A2 r.length r ∧ Below w6.heap.size w6 (w6.alloc (.cells #[.int .i64 f0, .int .i64 f1, .int .i64 f2] 36)) ∧ Below wr.heap.size wr (w6.alloc (.cells #[.int .i64 f0, .int .i64 f1, .int .i64 f2] 36))) :=
        ⟨(hk.out.step hb6).step hbN, Box.new w6 [.int .i64 f0, .int .i64 f1, .int .i64 f2] _, hr2.below hbN, hbN, bth5 hb6 hbN⟩
      clear hr2 hfr hb6 hbN
      go_wp2_with fail
      generalize w6.alloc (.cells #[.int .i64 f0, .int .i64 f1, .int .i64 f2] 36) = W6 at *
      have hd := (Below.refl W6.heap.size W6).drew
      have hs1 := Lib.hid (And.intro (hst6.out.1.step hd) (And.intro (hst6.out.2.1.step hd) (And.intro (hst6.out.2.2.1.below hd) (And.intro (bth5 hst6.out.2.2.2.1 hd) (bth5 hst6.out.2.2.2.2 hd)))))
      clear hst6 hd
      have s0 : W6.drew.cell? ⟨w6.heap.size, 0, none⟩ = some (.int .i64 f0) ∧ W6.drew.cell? ⟨w6.heap.size, 1, none⟩ = some (.int .i64 f1) ∧ W6.drew.cell? ⟨w6.heap.size, 2, none⟩ = some (.int .i64 f2) ∧ W6.drew.cell? ⟨w1.heap.size, 0, none⟩ = some (.int .i64 f0) ∧ W6.drew.cell? ⟨w1.heap.size, 1, none⟩ = some (.int .i64 f1) ∧ W6.drew.cell? ⟨w1.heap.size, 2, none⟩ = some (.int .i64 f2) := ⟨hs1.out.2.1.three.1, hs1.out.2.1.three.2.1, hs1.out.2.1.three.2.2, hs1.out.1.f.three.1, hs1.out.1.f.three.2.1, hs1.out.1.f.three.2.2⟩
      go_region_held3 (fun w' => w'.cell? ⟨w6.heap.size, 0, none⟩ = some (.int .i64 f0) ∧ w'.cell? ⟨w6.heap.size, 1, none⟩ = some (.int .i64 f1) ∧ w'.cell? ⟨w6.heap.size, 2, none⟩ = some (.int .i64 f2) ∧ w'.cell? ⟨w1.heap.size, 0, none⟩ = some (.int .i64 f0) ∧ w'.cell? ⟨w1.heap.size, 1, none⟩ = some (.int .i64 f1) ∧ w'.cell? ⟨w1.heap.size, 2, none⟩ = some (.int .i64 f2)) (first | with_reducible exact s0 | with_reducible exact s1 | with_reducible exact s2)
        (first
          | (go_at_call 12
             with_reducible refine (qf.out W6.drew).mono ?_
             rintro e w7 ⟨rfl, hb7⟩
             have hs2 := Lib.hid (And.intro (hs1.out.1.step hb7) (And.intro (hs1.out.2.1.step hb7) (And.intro (hs1.out.2.2.1.below hb7) (And.intro (bth5 hs1.out.2.2.2.1 hb7) (bth5 hs1.out.2.2.2.2 hb7)))))
             have s1 : w7.cell? ⟨w6.heap.size, 0, none⟩ = some (.int .i64 f0) ∧ w7.cell? ⟨w6.heap.size, 1, none⟩ = some (.int .i64 f1) ∧ w7.cell? ⟨w6.heap.size, 2, none⟩ = some (.int .i64 f2) ∧ w7.cell? ⟨w1.heap.size, 0, none⟩ = some (.int .i64 f0) ∧ w7.cell? ⟨w1.heap.size, 1, none⟩ = some (.int .i64 f1) ∧ w7.cell? ⟨w1.heap.size, 2, none⟩ = some (.int .i64 f2) := ⟨hs2.out.2.1.three.1, hs2.out.2.1.three.2.1, hs2.out.2.1.three.2.2, hs2.out.1.f.three.1, hs2.out.1.f.three.2.1, hs2.out.1.f.three.2.2⟩)
          | (go_at_call 14
             with_reducible refine (lawSameT A2 A r.length c2 c1 r w7 hs2.out.2.2.1 hs2.out.1.row hr400).mono ?_
             rintro e w8 ⟨rfl, hb8⟩
             have hs3 := Lib.hid (And.intro (hs2.out.1.step hb8) (And.intro (hs2.out.2.1.step hb8) (And.intro (hs2.out.2.2.1.below hb8) (And.intro (bth5 hs2.out.2.2.2.1 hb8) (bth5 hs2.out.2.2.2.2 hb8)))))
             have s2 : w8.cell? ⟨w6.heap.size, 0, none⟩ = some (.int .i64 f0) ∧ w8.cell? ⟨w6.heap.size, 1, none⟩ = some (.int .i64 f1) ∧ w8.cell? ⟨w6.heap.size, 2, none⟩ = some (.int .i64 f2) ∧ w8.cell? ⟨w1.heap.size, 0, none⟩ = some (.int .i64 f0) ∧ w8.cell? ⟨w1.heap.size, 1, none⟩ = some (.int .i64 f1) ∧ w8.cell? ⟨w1.heap.size, 2, none⟩ = some (.int .i64 f2) := ⟨hs3.out.2.1.three.1, hs3.out.2.1.three.2.1, hs3.out.2.1.three.2.2, hs3.out.1.f.three.1, hs3.out.1.f.three.2.1, hs3.out.1.f.three.2.2⟩))
      all_goals
        (obtain ⟨n, hn⟩ : ∃ n, n = r.length := ⟨_, rfl⟩
         have hst8 : Hid ((n = 0 ∨ ∃ g o, A2 = some ⟨g, o, none⟩ ∧ wr.heap.size ≤ g ∧ CA w8 g o n) ∧ Below wr.heap.size wr w8) := ⟨by
           rw [hn]
           rcases hca.out with h | ⟨g, o, e, h1, h2⟩
           · exact Or.inl h
           · exact Or.inr ⟨g, o, e, h1, h2.step hs3.out.2.2.2.1⟩, hs3.out.2.2.2.2⟩
         rw [← hn] at hr400
         clear hs1 hs2 hs3 s0 s1 s2 hb7 hb8 hca
         go_wp2_with fail
         obtain ⟨wo, hwo⟩ : ∃ wo : World, wo = wr := ⟨_, rfl⟩
         rw [← hwo] at hst8 hk
         clear hwo)
      go_loopw [16] (fun v W => ∃ i : Nat, i ≤ n ∧ v = .int .i64 i ∧ Hid ((n = 0 ∨ ∃ g o, A2 = some ⟨g, o, none⟩ ∧ wo.heap.size ≤ g ∧ CA W g o n) ∧ Below wo.heap.size wo W)) (fun v _ => n - (intOf v).toNat)
      case atStart => exact ⟨0, by omega, rfl, hst8⟩
      case round =>
        obtain ⟨i, hi, rfl, hcs⟩ := hrel
        clear hst8
        by_cases hin : i < n
        · have hin' : (i : Int) < n := by omega
          obtain ⟨g, o, rfl, hB, hca⟩ : ∃ g o, A2 = some ⟨g, o, none⟩ ∧ wo.heap.size ≤ g ∧ CA wr g o n := by
            rcases hcs.out.1 with h | h
            · omega
            · exact h
          obtain ⟨⟨v0, k0⟩, z0⟩ := hca i hin 0 (by omega)
          obtain ⟨⟨v1, k1⟩, z1⟩ := hca i hin 1 (by omega)
          obtain ⟨⟨v2, k2⟩, z2⟩ := hca i hin 2 (by omega)
          obtain ⟨⟨v3, k3⟩, z3⟩ := hca i hin 3 (by omega)
          obtain ⟨⟨v4, k4⟩, z4⟩ := hca i hin 4 (by omega)
          rw [Nat.add_zero] at k0 z0
          have hbl := hcs.out.2
          have hfin : Hid (∀ u0 u1 u2 u3 u4, (n = 0 ∨ ∃ g' o', some (⟨g, o, none⟩ : Addr) = some ⟨g', o', none⟩ ∧ wo.heap.size ≤ g' ∧ CA (((((wr.setCell ⟨g, o + i * 5, none⟩ u0).setCell ⟨g, o + i * 5 + 1, none⟩ u1).setCell ⟨g, o + i * 5 + 2, none⟩ u2).setCell ⟨g, o + i * 5 + 3, none⟩ u3).setCell ⟨g, o + i * 5 + 4, none⟩ u4) g' o' n) ∧ Below wo.heap.size wo (((((wr.setCell ⟨g, o + i * 5, none⟩ u0).setCell ⟨g, o + i * 5 + 1, none⟩ u1).setCell ⟨g, o + i * 5 + 2, none⟩ u2).setCell ⟨g, o + i * 5 + 3, none⟩ u3).setCell ⟨g, o + i * 5 + 4, none⟩ u4)) :=
            fun u0 u1 u2 u3 u4 => ⟨Or.inr ⟨g, o, rfl, hB, ca_set5 hca g (o + i * 5) u0 u1 u2 u3 u4⟩, below_set5 hbl g (o + i * 5) hB u0 u1 u2 u3 u4⟩
          clear hcs hbl hca hB hk QL QW
          go_wp2_with fail
          exact ⟨⟨i + 1, by omega, by go_num, hfin.out _ _ _ _ _⟩, by simp [intOf]; omega⟩
        · have hin2 : i = n := by omega
          have hin' : ¬ (i : Int) < n := by omega
          have hk2 := Lib.hid (hk.out.step hcs.out.2)
          clear hcs hk hin hin2
          go_wp2_with fail
          exact ⟨⟨t + 1, by omega, by go_num, hk2⟩, by simp [intOf]; omega⟩
    · have ht2 : t = 2 := by omega
      have hlt' : ¬ (t : Int) < 2 := by omega
      have hq := fun W hL => QW.out W hL
      have hbl := Lib.hid hk.out.below
      clear ht2 hlt hk QW
      go_wp2_with fail
      refine (hq _ (hL0.out.below hbl.out)).mono ?_
      rintro e w9 ⟨rfl, hb9⟩
      go_wp2_with fail
      go_ret
      exact ⟨by first | rfl | simp, bth5 hbl.out hb9⟩

set_option maxHeartbeats 400000 in
theorem cuts_long (hAl : TokAllC) (s : ByteArray) (z : Int) (w : World) (hL : LaidR w) (hs : 400 < s.size) (hm : s.size ≤ maxLen) :
    Calls Tryd.prog 3 #[.string s, .int .i64 z] w fun e w' => e = .returned (.bool true) ∧ Below w.heap.size w w' := by
  unfold maxLen at hm
  have hs4 : (400 : Int) < s.size := by omega
  have hq := works_tok hAl w hL
  clear hAl hL
  go_enter Tryd.func3, Tryd.ntmps3
  go_wp2_with fail
  refine hq.mono ?_
  rintro e w1 ⟨rfl, hb1⟩
  go_wp2_with fail
  go_ret
  exact ⟨rfl, hb1⟩
end Go.Proofs.YthlpldmodflmjaaDoor
