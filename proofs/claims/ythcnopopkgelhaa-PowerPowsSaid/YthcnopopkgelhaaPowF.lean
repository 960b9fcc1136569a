/- The contracts of power's Sum and of its two closures. -/
import Derived.Test.YthcnopopkgelhaaPowE
namespace Go.Proofs.Ythcnopopkgelhaa
open Go.RowKit

/-- The sum of the first k powers. -/
def gsum (N : Nat) : Nat → Nat
  | 0 => 0
  | k + 1 => gsum N k + N ^ k
theorem gsum_add (N k j : Nat) : gsum N (k + j) = gsum N k + gsum N j * N ^ k := by
  induction j with
  | zero => simp [gsum]
  | succ j ih =>
    show gsum N (k + j) + N ^ (k + j) = gsum N k + (gsum N j + N ^ j) * N ^ k
    rw [ih, Nat.add_mul, Nat.pow_add, Nat.mul_comm (N ^ k)]
    omega
theorem gsum_psum (N k : Nat) : gsum N k + N ^ k = psum N k := by
  induction k with
  | zero => simp [gsum, psum]
  | succ k ih =>
    show gsum N k + N ^ k + N ^ (k + 1) = psum N k + N ^ (k + 1)
    rw [ih]
theorem gsum_lt (N k : Nat) (h : 2 ≤ N) : gsum N k + 1 ≤ N ^ k := by
  induction k with
  | zero => simp [gsum]
  | succ k ih =>
    show gsum N k + N ^ k + 1 ≤ N ^ (k + 1)
    have := Nat.mul_le_mul_left (N ^ k) h
    rw [Nat.pow_succ]
    omega
theorem gsum_one (k : Nat) : gsum 1 k = k := by
  induction k with
  | zero => rfl
  | succ k ih => simp [gsum, ih]
theorem gsum_zero (k : Nat) : gsum 0 k ≤ 1 := by
  cases k with
  | zero => simp [gsum]
  | succ k =>
    induction k with
    | zero => simp [gsum]
    | succ k ih => simpa [gsum] using ih
theorem gsum_le (N k : Nat) : gsum N k ≤ N ^ k + k := by
  rcases Nat.lt_or_ge N 2 with h | h
  · rcases Nat.lt_or_ge N 1 with h1 | h1
    · obtain rfl : N = 0 := by omega
      cases k with
      | zero => simp [gsum]
      | succ k => have := gsum_zero (k + 1); omega
    · obtain rfl : N = 1 := by omega
      rw [gsum_one, Nat.one_pow]; omega
  · have := gsum_lt N k h
    omega

/-- What stands in memory while Sum's steps run: as for Pow, with the sum so far (at gb). -/
structure SE (w0 : World) (c0 : Int) (N : Nat) (A : Option Addr) (n c gc gp gb ga gr : Nat) (W : World) : Prop where
  cap : W.cell? ⟨gc, 0, none⟩ = some (.int .i64 c0)
  arg : W.cell? ⟨ga, 0, none⟩ = some (.slice A n c)
  num : Num W 0 A n c N
  far : ∀ ad, A = some ad → ad.block ≠ gp ∧ ad.block ≠ gb
  res : W.cell? ⟨gr, 0, none⟩ = some (.slice none 0 0)
  resF : W.frozen? ⟨gr, 0, none⟩ = false
  froP : W.frozen? ⟨gp, 0, none⟩ = false
  someP : ∃ v, W.cell? ⟨gp, 0, none⟩ = some v
  froB : W.frozen? ⟨gb, 0, none⟩ = false
  someB : ∃ v, W.cell? ⟨gb, 0, none⟩ = some v
  ne : gc ≠ gp ∧ ga ≠ gp ∧ gc ≠ gb ∧ ga ≠ gb
  base : w0.heap.size ≤ gr ∧ gr < gp ∧ gp < gb
  below : Below w0.heap.size w0 W

/-- A number in a box of a step's own. -/
def Box (W : World) (gr gp gb g V : Nat) : Prop := ∃ B m d, W.cell? ⟨g, 0, none⟩ = some (.slice B m d) ∧ Num W (gr + 1) B m d V ∧ ∀ ad, B = some ad → ad.block ≠ gp ∧ ad.block ≠ gb

structure SS (w0 : World) (c0 : Int) (N : Nat) (A : Option Addr) (n c gc gp gb ga gr k : Nat) (W : World) : Prop where
  env : SE w0 c0 N A n c gc gp gb ga gr W
  pow : Box W gr gp gb gp (N ^ k)
  bel : Box W gr gp gb gb (gsum N k)
  fit : Fit c0 (N ^ k)
  lt : k < LB

section
variable {w0 W W' : World} {c0 : Int} {N : Nat} {A : Option Addr} {n c gc gp gb ga gr k g V : Nat}
theorem SE.keep (h : SE w0 c0 N A n c gc gp gb ga gr W) (hb : Below W.heap.size W W') : SE w0 c0 N A n c gc gp gb ga gr W' := by
  have k := fun {g : Nat} {v : Value} (hc : W.cell? ⟨g, 0, none⟩ = some v) => (hb.cell (p := ⟨g, 0, none⟩) (World.block_lt_of_cell? W ⟨g, 0, none⟩ hc)).trans hc
  have f := fun {g : Nat} {v : Value} (hc : W.cell? ⟨g, 0, none⟩ = some v) => hb.frozen (p := ⟨g, 0, none⟩) (World.block_lt_of_cell? W ⟨g, 0, none⟩ hc)
  obtain ⟨v, hv⟩ := h.someP
  obtain ⟨u, hu⟩ := h.someB
  exact ⟨k h.cap, k h.arg, h.num.below hb, h.far, k h.res, (f h.res).trans h.resF, (f hv).trans h.froP, ⟨v, k hv⟩, (f hu).trans h.froB, ⟨u, k hu⟩, h.ne, h.base,
    h.below.trans (hb.mono (by have := World.block_lt_of_cell? W ⟨gp, 0, none⟩ hv; have := h.base; simp at *; omega))⟩
theorem SE.store (h : SE w0 c0 N A n c gc gp gb ga gr W) (hg : g = gp ∨ g = gb) (u : Value) : SE w0 c0 N A n c gc gp gb ga gr (W.setCell ⟨g, 0, none⟩ u) := by
  obtain ⟨vp, hvp⟩ := h.someP
  obtain ⟨vb, hvb⟩ := h.someB
  have hne := h.ne
  have hba := h.base
  have k := fun {x : Nat} {v : Value} (hne : x ≠ g) (hc : W.cell? ⟨x, 0, none⟩ = some v) => (World.cell?_setCell_other W ⟨g, 0, none⟩ ⟨x, 0, none⟩ u (fun e => by injection e with e; exact hne e.symm)).trans hc
  have s : ∀ {x : Nat} {v : Value}, W.cell? ⟨x, 0, none⟩ = some v → ∃ v', (W.setCell ⟨g, 0, none⟩ u).cell? ⟨x, 0, none⟩ = some v' := by
    intro x v hc
    by_cases e : x = g
    · subst e; exact ⟨u, World.cell?_setCell_same W ⟨x, 0, none⟩ u hc⟩
    · exact ⟨v, k e hc⟩
  refine ⟨k (by omega) h.cap, k (by omega) h.arg, h.num.setFar (fun ad ha => by have := h.far ad ha; simp; rcases hg with rfl | rfl; exact this.1; exact this.2) u, h.far, k (by omega) h.res, by simpa using h.resF, by simpa using h.froP, s hvp, by simpa using h.froB, s hvb, h.ne, h.base, h.below.setCell (by simp; omega) u⟩
theorem Box.keep (h : Box W gr gp gb g V) (hb : Below W.heap.size W W') : Box W' gr gp gb g V := by
  obtain ⟨B, m, d, h1, h2, h3⟩ := h
  exact ⟨B, m, d, (hb.cell (p := ⟨g, 0, none⟩) (World.block_lt_of_cell? W ⟨g, 0, none⟩ h1)).trans h1, h2.below hb, h3⟩
theorem Box.other {x : Nat} (h : Box W gr gp gb g V) (hx : x = gp ∨ x = gb) (hne : g ≠ x) (u : Value) : Box (W.setCell ⟨x, 0, none⟩ u) gr gp gb g V := by
  obtain ⟨B, m, d, h1, h2, h3⟩ := h
  refine ⟨B, m, d, (World.cell?_setCell_other W ⟨x, 0, none⟩ ⟨g, 0, none⟩ u (fun e => by injection e with e; exact hne e.symm)).trans h1, h2.setFar (fun ad ha => ?_) u, h3⟩
  have := h3 ad ha
  rcases hx with rfl | rfl
  · exact this.1
  · exact this.2
theorem SE.lt (h : SE w0 c0 N A n c gc gp gb ga gr W) : gp < W.heap.size ∧ gb < W.heap.size := by
  obtain ⟨v, hv⟩ := h.someP
  obtain ⟨u, hu⟩ := h.someB
  exact ⟨World.block_lt_of_cell? W ⟨gp, 0, none⟩ hv, World.block_lt_of_cell? W ⟨gb, 0, none⟩ hu⟩
/-- A new number, stored in a box. -/
theorem SE.put (h : SE w0 c0 N A n c gc gp gb ga gr W) (hg : g = gp ∨ g = gb) {B : Option Addr} {m d base : Nat} (hn : Num W base B m d V) (h1 : gb < base) : Box (W.setCell ⟨g, 0, none⟩ (.slice B m d)) gr gp gb g V := by
  have hba := h.base
  have hf1 := hn.far (g := gp) (by omega)
  have hf2 := hn.far (g := gb) h1
  have hs : ∃ v, W.cell? ⟨g, 0, none⟩ = some v := by rcases hg with rfl | rfl; exact h.someP; exact h.someB
  obtain ⟨v, hv⟩ := hs
  refine ⟨B, m, d, World.cell?_setCell_same W ⟨g, 0, none⟩ _ hv, (hn.mono (by omega)).setFar (fun ad ha => ?_) _, fun ad ha => ⟨hf1 ad ha, hf2 ad ha⟩⟩
  rcases hg with rfl | rfl
  · exact hf1 ad ha
  · exact hf2 ad ha
theorem SS.keep (h : SS w0 c0 N A n c gc gp gb ga gr k W) (hb : Below W.heap.size W W') : SS w0 c0 N A n c gc gp gb ga gr k W' := ⟨h.env.keep hb, h.pow.keep hb, h.bel.keep hb, h.fit, h.lt⟩
end

theorem sum_len {W : World} {b m d N k : Nat} {B : Option Addr} {c0 : Int} (h : Num W b B m d (gsum N k)) (hf : Fit c0 (N ^ k)) (hk : k < LB) : m ≤ capN c0 + 1 := by
  have h1 := gsum_le N k
  unfold Fit at hf
  generalize capN c0 = q at *
  refine (h.fit ((q + 1 : Nat) : Int)).2 ?_
  unfold Fit
  rw [show capN ((q + 1 : Nat) : Int) = q + 1 from by unfold capN; omega, Nat.pow_succ]
  obtain ⟨a, ha⟩ : ∃ a, LB ^ q = a + 1 := ⟨LB ^ q - 1, by have := Nat.pow_pos (n := q) LB_pos; omega⟩
  rw [ha] at hf ⊢
  have h2 : a * 1 ≤ a * LB := Nat.mul_le_mul_left _ LB_pos
  rw [Nat.add_mul]
  omega

theorem above_two {G gp gb : Nat} {W w1 w2 : World} (hb : Below W.heap.size W w1) (hg : gp < G) (hg2 : gb < G) (u v : Value) (hb2 : Below (w1.setCell ⟨gb, 0, none⟩ u).heap.size (w1.setCell ⟨gb, 0, none⟩ u) w2) : Above G W (w2.setCell ⟨gp, 0, none⟩ v) := fun i h1 h2 =>
  (Below.heap_setCell _ ⟨gp, 0, none⟩ v i (by simp; omega)).trans ((hb2.block i (by have := hb.size; simp [World.setCell]; omega)).trans ((Below.heap_setCell _ ⟨gb, 0, none⟩ u i (by simp; omega)).trans (hb.block i h2)))

/-- How a step ends. -/
def StepEnd (G : Prop) (S B : World → Prop) (e : Ending) (w' : World) : Prop := (G ∧ e = .returned (.bool true) ∧ S w') ∨ (¬ G ∧ e = .returned (.bool false) ∧ B w')

set_option maxHeartbeats 1000000 in
theorem ssq {w0 W : World} {c0 : Int} {N : Nat} {A : Option Addr} {n c gc gp gb ga gr k G : Nat} (hc : capN c0 ≤ 1000) (h : SS w0 c0 N A n c gc gp gb ga gr k W) (hG : gb < G) (hk : 2 * k < LB) :
    Calls Try.prog 36 #[.pointer (some ⟨gb, 0, none⟩), .pointer (some ⟨gp, 0, none⟩), .pointer (some ⟨gc, 0, none⟩)] W fun e w' => StepEnd (Fit c0 (N ^ (2 * k))) (fun w' => SS w0 c0 N A n c gc gp gb ga gr (2 * k) w' ∧ Above G W w') (fun w' => SE w0 c0 N A n c gc gp gb ga gr w') e w' := by
  have hW := h.keep (Below.refl W.heap.size W).drew
  have hal : Below W.heap.size W W.drew := (Below.refl W.heap.size W).drew
  obtain ⟨B, m, d, hcp, hn, hfar⟩ := hW.pow
  obtain ⟨D, q, e0, hcb, hnb, hfarb⟩ := hW.bel
  have hm := hn.len_fit hW.fit
  have hq := sum_len hnb hW.fit hW.lt
  have hne := hW.env.base
  have H := Lib.hid h
  clear h
  go_enter Try.func36, Try.ntmps36
  go_wp2_with fail
  rename_i K hK
  have key : ∀ (A2 : Option Addr) (n2 c2 : Nat) (A3 : Option Addr) (n3 c3 : Nat) (w3 : World), SE w0 c0 N A n c gc gp gb ga gr w3 → Box w3 gr gp gb gp (N ^ k) → Num w3 (gb + 1) A3 n3 c3 (gsum N (2 * k)) → Below W.heap.size W w3 →
      K { tmps := #[.pointer (some ⟨gb, 0, none⟩), .pointer (some ⟨gp, 0, none⟩), .pointer (some ⟨gc, 0, none⟩), .bool false, .agg #[.slice D q e0], .agg #[.slice D q e0], .agg #[.slice B m d], .agg #[.slice A2 n2 c2], .agg #[.slice A3 n3 c3],
        undef, undef, undef, undef, undef, undef, undef, undef], defers := [] } (w3.setCell ⟨gb, 0, none⟩ (.slice A3 n3 c3)) := by
    intro A2 n2 c2 A3 n3 c3 w3 en3 px3 hnum3 hb
    have en4 := en3.store (.inr rfl) (.slice A3 n3 c3)
    have px4 := px3.other (.inr rfl) (by omega) (.slice A3 n3 c3)
    have bx4 := en3.put (.inr rfl) hnum3 (Nat.lt_succ_self _)
    have ht := fun w2 v (hb2 : Below (w3.setCell ⟨gb, 0, none⟩ (.slice A3 n3 c3)).heap.size (w3.setCell ⟨gb, 0, none⟩ (.slice A3 n3 c3)) w2) => above_two hb (show gp < G by omega) hG (.slice A3 n3 c3) v hb2
    generalize w3.setCell ⟨gb, 0, none⟩ (.slice A3 n3 c3) = w4 at *
    clear en3 px3 hnum3
    apply hK
    obtain ⟨B4, m4, d4, hcp4, hn4, hfar4⟩ := px4
    have hm4 := hn4.len_fit H.out.fit
    have hcc4 := en4.cap
    have hee : N ^ k * N ^ k = N ^ (2 * k) := by rw [← Nat.pow_add]; congr 1; omega
    by_cases hf : Fit c0 (N ^ (2 * k))
    · have hmul := capMul_yes c0 hn4 hn4 (by omega) (by omega) (by rw [hee]; exact hf)
      rw [hee] at hmul
      have HF := Lib.hid hf
      clear hf hee hcp hn hcb hnb hW hal
      go_wp2_with fail
      refine hmul.mono ?_
      rintro e w5 ⟨A1, n1, c1, rfl, hnum, hl1, hb5⟩
      have he := en4.keep hb5
      obtain ⟨v, hv⟩ := he.someP
      have hfr := he.froP
      go_wp2_with fail
      go_ret
      exact .inl ⟨HF.out, rfl, ⟨he.store (.inl rfl) _, he.put (.inl rfl) hnum en4.lt.2, (bx4.keep hb5).other (.inl rfl) (by omega) _, HF.out, hk⟩, ht w5 _ hb5⟩
    · have hmul := capMul_no c0 hn4 hn4 (by omega) (by omega) (by rw [hee]; exact hf)
      have HF := Lib.hid hf
      clear hf hee hcp hn hcb hnb hW hal
      go_wp2_with fail
      refine hmul.mono ?_
      rintro e w5 ⟨rfl, hb5⟩
      have he := en4.keep hb5
      obtain ⟨v, hv⟩ := he.someP
      have hfr := he.froP
      go_wp2_with fail
      go_ret
      exact .inr ⟨HF.out, rfl, he.store (.inl rfl) _⟩
  go_region_with
    (first
      | (go_at_call 18
         with_reducible refine (natMul (w := W.drew) hnb hn ?h1 ?h2).mono ?_
         case h1 => omega
         case h2 => omega
         rintro e w2 ⟨A2, n2, c2, rfl, hnum2, hl2, hb2⟩
         have en2 := hW.env.keep hb2
         have bx2 := (hW.bel.keep hb2)
         have hcb2 := (hb2.cell (p := ⟨gb, 0, none⟩) hW.env.lt.2).trans hcb)
      | (go_at_call 19
         with_reducible refine (natAdd (w := w2) (hnb.below hb2) hnum2 ?h1 ?h2).mono ?_
         case h1 => omega
         case h2 => omega
         rintro e w3 ⟨A3, n3, c3, rfl, hnum3, hl3, hb3⟩
         have en3 := en2.keep hb3
         have px3 := (hW.pow.keep hb2).keep hb3
         obtain ⟨v3, hv3⟩ := en3.someB
         have hf3 := en3.froB))
  all_goals
    exact key _ _ _ _ _ _ _ en3 px3 (by
      have e : gsum N k + gsum N k * N ^ k = gsum N (2 * k) := by rw [← gsum_add]; congr 1; omega
      rw [← e]
      exact hnum3.mono (by have := hW.env.lt.2; have := hb2.size; omega)) (hal.trans ((hb2.mono (Nat.le_refl _)).trans (hb3.mono hb2.size)))

set_option maxHeartbeats 1000000 in
theorem stm {w0 W : World} {c0 : Int} {N : Nat} {A : Option Addr} {n c gc gp gb ga gr k G : Nat} (hc : capN c0 ≤ 1000) (hn1 : n ≤ 1000) (h : SS w0 c0 N A n c gc gp gb ga gr k W) (hG : gb < G) (hk : k + 1 < LB) :
    Calls Try.prog 37 #[.pointer (some ⟨gb, 0, none⟩), .pointer (some ⟨gp, 0, none⟩), .pointer (some ⟨gc, 0, none⟩), .pointer (some ⟨ga, 0, none⟩)] W fun e w' => StepEnd (Fit c0 (N ^ (k + 1))) (fun w' => SS w0 c0 N A n c gc gp gb ga gr (k + 1) w' ∧ Above G W w') (fun w' => SE w0 c0 N A n c gc gp gb ga gr w') e w' := by
  obtain ⟨B, m, d, hcp, hn, hfar⟩ := h.pow
  obtain ⟨D, q, e0, hcb, hnb, hfarb⟩ := h.bel
  have hm := hn.len_fit h.fit
  have hq := sum_len hnb h.fit h.lt
  have hne := h.env.base
  have hadd := natAdd hnb hn (by omega) (by omega)
  have H := Lib.hid h
  clear h
  go_enter Try.func37, Try.ntmps37
  go_wp2_with fail
  refine hadd.mono ?_
  rintro e w3 ⟨A3, n3, c3, rfl, hnum3, hl3, hb⟩
  have en3 := H.out.env.keep hb
  obtain ⟨v3, hv3⟩ := en3.someB
  have hf3 := en3.froB
  have en4 := en3.store (.inr rfl) (.slice A3 n3 c3)
  have px4 := (H.out.pow.keep hb).other (.inr rfl) (by omega) (.slice A3 n3 c3)
  have bx4 := en3.put (.inr rfl) hnum3 H.out.env.lt.2
  have ht := fun w2 v (hb2 : Below (w3.setCell ⟨gb, 0, none⟩ (.slice A3 n3 c3)).heap.size (w3.setCell ⟨gb, 0, none⟩ (.slice A3 n3 c3)) w2) => above_two hb (show gp < G by omega) hG (.slice A3 n3 c3) v hb2
  clear hadd hcp hn hcb hnb
  obtain ⟨W4, hW4⟩ : ∃ W4, W4 = w3.setCell ⟨gb, 0, none⟩ (.slice A3 n3 c3) := ⟨_, rfl⟩
  rw [← hW4] at en4 px4 bx4 ht
  obtain ⟨B4, m4, d4, hcp4, hn4, hfar4⟩ := px4
  have hm4 := hn4.len_fit H.out.fit
  have hcc4 := en4.cap
  have haa4 := en4.arg
  have hee : N ^ k * N = N ^ (k + 1) := (Nat.pow_succ N k).symm
  have HW4 := Lib.hid hW4
  by_cases hf : Fit c0 (N ^ (k + 1))
  · have hmul := capMul_yes c0 hn4 en4.num (by omega) (by omega) (by rw [hee]; exact hf)
    rw [hee] at hmul
    have HF := Lib.hid hf
    clear hf hee
    subst hW4
    go_wp2_with fail
    refine hmul.mono ?_
    rintro e w5 ⟨A1, n1, c1, rfl, hnum, hl1, hb5⟩
    have he := en4.keep hb5
    obtain ⟨v, hv⟩ := he.someP
    have hfr := he.froP
    go_wp2_with fail
    go_ret
    exact .inl ⟨HF.out, rfl, ⟨he.store (.inl rfl) _, he.put (.inl rfl) hnum en4.lt.2, (bx4.keep hb5).other (.inl rfl) (by omega) _, HF.out, hk⟩, ht w5 _ hb5⟩
  · have hmul := capMul_no c0 hn4 en4.num (by omega) (by omega) (by rw [hee]; exact hf)
    have HF := Lib.hid hf
    clear hf hee
    subst hW4
    go_wp2_with fail
    refine hmul.mono ?_
    rintro e w5 ⟨rfl, hb5⟩
    have he := en4.keep hb5
    obtain ⟨v, hv⟩ := he.someP
    have hfr := he.froP
    go_wp2_with fail
    go_ret
    exact .inr ⟨HF.out, rfl, he.store (.inl rfl) _⟩
end Go.Proofs.Ythcnopopkgelhaa
