/- The contracts of power's Pow and of its two closures. -/
import Derived.Test.YthcnopopkgelhaaPowD
namespace Go.Proofs.Ythcnopopkgelhaa
open Go.RowKit

theorem Num.setFar {w : World} {n c N base : Nat} {A : Option Addr} (h : Num w base A n c N) {p : Addr} (hp : ∀ ad, A = some ad → ad.block ≠ p.block) (u : Value) : Num (w.setCell p u) base A n c N := by
  obtain ⟨l, h1, h2, h3, h4, h5, h6, h7, h8⟩ := h
  have e : (w.setCell p u).heap.size = w.heap.size := by simp [World.setCell]
  exact ⟨l, by rw [e]; exact h1.setCell (fun ad ha e => hp ad ha e.symm) u, h2, h3, h4, h5, h6, h7, h8⟩
theorem Num.far {w : World} {n c N base : Nat} {A : Option Addr} (h : Num w base A n c N) {g : Nat} (hg : g < base) : ∀ ad, A = some ad → ad.block ≠ g := by
  obtain ⟨l, h1, h2, h3, h4, h5, h6, h7, h8⟩ := h
  intro ad ha e
  have := h8 ad ha
  omega
theorem Num.len_fit {w : World} {b n c' N : Nat} {A : Option Addr} {c0 : Int} (h : Num w b A n c' N) (hf : Fit c0 N) : n ≤ capN c0 := (h.fit c0).2 hf

/-- What stands in memory while Pow's steps run: the boxes of the cap (at gc), the number (at ga), the power so far (at gp), the result (at gr). -/
structure PE (w0 : World) (c0 : Int) (N : Nat) (A : Option Addr) (n c gc gp ga gr : Nat) (W : World) : Prop where
  cap : W.cell? ⟨gc, 0, none⟩ = some (.int .i64 c0)
  arg : W.cell? ⟨ga, 0, none⟩ = some (.slice A n c)
  num : Num W 0 A n c N
  far : ∀ ad, A = some ad → ad.block ≠ gp
  res : W.cell? ⟨gr, 0, none⟩ = some (.slice none 0 0)
  resF : W.frozen? ⟨gr, 0, none⟩ = false
  fro : W.frozen? ⟨gp, 0, none⟩ = false
  some_ : ∃ v, W.cell? ⟨gp, 0, none⟩ = some v
  ne : gc ≠ gp ∧ ga ≠ gp ∧ gr ≠ gp
  base : w0.heap.size ≤ gr ∧ gr < gp
  below : Below w0.heap.size w0 W

structure PS (w0 : World) (c0 : Int) (N : Nat) (A : Option Addr) (n c gc gp ga gr k : Nat) (W : World) : Prop where
  env : PE w0 c0 N A n c gc gp ga gr W
  pow : ∃ B m d, W.cell? ⟨gp, 0, none⟩ = some (.slice B m d) ∧ Num W (gr + 1) B m d (N ^ k) ∧ ∀ ad, B = some ad → ad.block ≠ gp
  fit : Fit c0 (N ^ k)

section
variable {w0 W W' : World} {c0 : Int} {N : Nat} {A : Option Addr} {n c gc gp ga gr k : Nat}
theorem PE.keep (h : PE w0 c0 N A n c gc gp ga gr W) (hb : Below W.heap.size W W') : PE w0 c0 N A n c gc gp ga gr W' := by
  have k := fun {g : Nat} {v : Value} (hc : W.cell? ⟨g, 0, none⟩ = some v) => (hb.cell (p := ⟨g, 0, none⟩) (World.block_lt_of_cell? W ⟨g, 0, none⟩ hc)).trans hc
  obtain ⟨v, hv⟩ := h.some_
  exact ⟨k h.cap, k h.arg, h.num.below hb, h.far, k h.res, (hb.frozen (p := ⟨gr, 0, none⟩) (World.block_lt_of_cell? W ⟨gr, 0, none⟩ h.res)).trans h.resF, (hb.frozen (p := ⟨gp, 0, none⟩) (World.block_lt_of_cell? W ⟨gp, 0, none⟩ hv)).trans h.fro,
    ⟨v, k hv⟩, h.ne, h.base, h.below.trans (hb.mono (by have := World.block_lt_of_cell? W ⟨gp, 0, none⟩ hv; have := h.base; simp at *; omega))⟩
theorem PE.store (h : PE w0 c0 N A n c gc gp ga gr W) (u : Value) : PE w0 c0 N A n c gc gp ga gr (W.setCell ⟨gp, 0, none⟩ u) := by
  obtain ⟨v, hv⟩ := h.some_
  have k := fun {g : Nat} {v : Value} (hne : g ≠ gp) (hc : W.cell? ⟨g, 0, none⟩ = some v) => (World.cell?_setCell_other W ⟨gp, 0, none⟩ ⟨g, 0, none⟩ u (fun e => by injection e with e; exact hne e.symm)).trans hc
  exact ⟨k h.ne.1 h.cap, k h.ne.2.1 h.arg, h.num.setFar (fun ad ha => h.far ad ha) u, h.far, k h.ne.2.2 h.res, by simpa using h.resF, by simpa using h.fro,
    ⟨u, World.cell?_setCell_same W ⟨gp, 0, none⟩ u hv⟩, h.ne, h.base, h.below.setCell (by have := h.base; simp; omega) u⟩
theorem PS.keep (h : PS w0 c0 N A n c gc gp ga gr k W) (hb : Below W.heap.size W W') : PS w0 c0 N A n c gc gp ga gr k W' := by
  obtain ⟨B, m, d, hc, hn, hf⟩ := h.pow
  exact ⟨h.env.keep hb, ⟨B, m, d, (hb.cell (p := ⟨gp, 0, none⟩) (World.block_lt_of_cell? W ⟨gp, 0, none⟩ hc)).trans hc, hn.below hb, hf⟩, h.fit⟩
theorem PE.lt (h : PE w0 c0 N A n c gc gp ga gr W) : gp < W.heap.size := by
  obtain ⟨v, hv⟩ := h.some_
  exact World.block_lt_of_cell? W ⟨gp, 0, none⟩ hv
/-- Behind a store of the next power. -/
theorem PE.next (h : PE w0 c0 N A n c gc gp ga gr W) {B : Option Addr} {m d : Nat} (hn : Num W W.heap.size B m d (N ^ k) ∨ Num W (gr + 1) B m d (N ^ k) ∧ ∀ ad, B = some ad → ad.block ≠ gp) (hf : Fit c0 (N ^ k)) :
    PS w0 c0 N A n c gc gp ga gr k (W.setCell ⟨gp, 0, none⟩ (.slice B m d)) := by
  obtain ⟨v, hv⟩ := h.some_
  have hlt := h.lt
  have h2 : Num W (gr + 1) B m d (N ^ k) ∧ ∀ ad, B = some ad → ad.block ≠ gp := by
    rcases hn with h1 | h1
    · exact ⟨h1.mono (by have := h.base; omega), h1.far hlt⟩
    · exact h1
  exact ⟨h.store _, ⟨B, m, d, World.cell?_setCell_same W ⟨gp, 0, none⟩ _ hv, h2.1.setFar (fun ad ha => h2.2 ad ha) _, h2.2⟩, hf⟩
end
theorem above_of {G gp : Nat} {W w1 : World} (hb : Below W.heap.size W w1) (hg : gp < G) (u : Value) : Above G W (w1.setCell ⟨gp, 0, none⟩ u) := fun i h1 h2 =>
  (Below.heap_setCell _ ⟨gp, 0, none⟩ u i (by simp; omega)).trans (hb.block i h2)

set_option maxHeartbeats 400000 in
theorem sq_yes {w0 W : World} {c0 : Int} {N : Nat} {A : Option Addr} {n c gc gp ga gr k G : Nat} (hc : capN c0 ≤ 1000) (h : PS w0 c0 N A n c gc gp ga gr k W) (hG : gp < G) (hf : Fit c0 (N ^ (2 * k))) :
    Calls Try.prog 29 #[.pointer (some ⟨gc, 0, none⟩), .pointer (some ⟨gp, 0, none⟩)] W fun e w' => e = .returned (.bool true) ∧ PS w0 c0 N A n c gc gp ga gr (2 * k) w' ∧ Above G W w' := by
  obtain ⟨B, m, d, hcp, hn, hfar⟩ := h.pow
  have hm := hn.len_fit h.fit
  have hcc := h.env.cap
  have hee : N ^ k * N ^ k = N ^ (2 * k) := by rw [← Nat.pow_add]; congr 1; omega
  have hmul := capMul_yes c0 hn hn (by omega) (by omega) (by rw [hee]; exact hf)
  rw [hee] at hmul
  have HF := Lib.hid hf
  clear hf hee
  go_enter Try.func29, Try.ntmps29
  go_wp2_with fail
  refine hmul.mono ?_
  rintro e w1 ⟨A1, n1, c1, rfl, hnum, hl1, hb⟩
  have he := h.env.keep hb
  obtain ⟨v, hv⟩ := he.some_
  have hfr := he.fro
  go_wp2_with fail
  go_ret
  exact ⟨rfl, (h.env.keep hb).next (.inr ⟨hnum.mono (by have := h.env.lt; have := h.env.base; omega), hnum.far h.env.lt⟩) HF.out, above_of hb hG _⟩

set_option maxHeartbeats 400000 in
theorem sq_no {w0 W : World} {c0 : Int} {N : Nat} {A : Option Addr} {n c gc gp ga gr k : Nat} (hc : capN c0 ≤ 1000) (h : PS w0 c0 N A n c gc gp ga gr k W) (hf : ¬ Fit c0 (N ^ (2 * k))) :
    Calls Try.prog 29 #[.pointer (some ⟨gc, 0, none⟩), .pointer (some ⟨gp, 0, none⟩)] W fun e w' => e = .returned (.bool false) ∧ PE w0 c0 N A n c gc gp ga gr w' := by
  obtain ⟨B, m, d, hcp, hn, hfar⟩ := h.pow
  have hm := hn.len_fit h.fit
  have hcc := h.env.cap
  have hee : N ^ k * N ^ k = N ^ (2 * k) := by rw [← Nat.pow_add]; congr 1; omega
  have hmul := capMul_no c0 hn hn (by omega) (by omega) (by rw [hee]; exact hf)
  have HF := Lib.hid hf
  clear hf hee
  go_enter Try.func29, Try.ntmps29
  go_wp2_with fail
  refine hmul.mono ?_
  rintro e w1 ⟨rfl, hb⟩
  have he := h.env.keep hb
  obtain ⟨v, hv⟩ := he.some_
  have hfr := he.fro
  go_wp2_with fail
  go_ret
  exact ⟨rfl, he.store _⟩

set_option maxHeartbeats 400000 in
theorem tm_yes {w0 W : World} {c0 : Int} {N : Nat} {A : Option Addr} {n c gc gp ga gr k G : Nat} (hc : capN c0 ≤ 1000) (hn1 : n ≤ 1000) (h : PS w0 c0 N A n c gc gp ga gr k W) (hG : gp < G) (hf : Fit c0 (N ^ (k + 1))) :
    Calls Try.prog 31 #[.pointer (some ⟨gc, 0, none⟩), .pointer (some ⟨gp, 0, none⟩), .pointer (some ⟨ga, 0, none⟩)] W fun e w' => e = .returned (.bool true) ∧ PS w0 c0 N A n c gc gp ga gr (k + 1) w' ∧ Above G W w' := by
  obtain ⟨B, m, d, hcp, hn, hfar⟩ := h.pow
  have hm := hn.len_fit h.fit
  have hcc := h.env.cap
  have haa := h.env.arg
  have hee : N ^ k * N = N ^ (k + 1) := by rw [Nat.pow_succ]
  have hmul := capMul_yes c0 hn h.env.num (by omega) (by omega) (by rw [hee]; exact hf)
  rw [hee] at hmul
  have HF := Lib.hid hf
  clear hf hee
  go_enter Try.func31, Try.ntmps31
  go_wp2_with fail
  refine hmul.mono ?_
  rintro e w1 ⟨A1, n1, c1, rfl, hnum, hl1, hb⟩
  have he := h.env.keep hb
  obtain ⟨v, hv⟩ := he.some_
  have hfr := he.fro
  go_wp2_with fail
  go_ret
  exact ⟨rfl, (h.env.keep hb).next (.inr ⟨hnum.mono (by have := h.env.lt; have := h.env.base; omega), hnum.far h.env.lt⟩) HF.out, above_of hb hG _⟩

set_option maxHeartbeats 400000 in
theorem tm_no {w0 W : World} {c0 : Int} {N : Nat} {A : Option Addr} {n c gc gp ga gr k : Nat} (hc : capN c0 ≤ 1000) (hn1 : n ≤ 1000) (h : PS w0 c0 N A n c gc gp ga gr k W) (hf : ¬ Fit c0 (N ^ (k + 1))) :
    Calls Try.prog 31 #[.pointer (some ⟨gc, 0, none⟩), .pointer (some ⟨gp, 0, none⟩), .pointer (some ⟨ga, 0, none⟩)] W fun e w' => e = .returned (.bool false) ∧ PE w0 c0 N A n c gc gp ga gr w' := by
  obtain ⟨B, m, d, hcp, hn, hfar⟩ := h.pow
  have hm := hn.len_fit h.fit
  have hcc := h.env.cap
  have haa := h.env.arg
  have hee : N ^ k * N = N ^ (k + 1) := by rw [Nat.pow_succ]
  have hmul := capMul_no c0 hn h.env.num (by omega) (by omega) (by rw [hee]; exact hf)
  have HF := Lib.hid hf
  clear hf hee
  go_enter Try.func31, Try.ntmps31
  go_wp2_with fail
  refine hmul.mono ?_
  rintro e w1 ⟨rfl, hb⟩
  have he := h.env.keep hb
  obtain ⟨v, hv⟩ := he.some_
  have hfr := he.fro
  go_wp2_with fail
  go_ret
  exact ⟨rfl, he.store _⟩


/-- A number under a cap, and whether it fits. -/
def NatEnd (c0 : Int) (V : Nat) (w : World) (e : Ending) (w' : World) : Prop :=
  (Fit c0 V ∧ ∃ A1 n1 c1, e = .returned (.tuple #[.agg #[.slice A1 n1 c1], .bool true]) ∧ Num w' w.heap.size A1 n1 c1 V ∧ Below w.heap.size w w') ∨
  (¬ Fit c0 V ∧ e = .returned (.tuple #[.agg #[.slice none 0 0], .bool false]) ∧ Below w.heap.size w w')

theorem enterPow1 (args : Array Value) (w : World) : (callFunc 29 args).run Try.prog w = .ok (.enter 29 args) w := by
  exact Go.Proofs.enters_of Try.func29 (by kernel_rfl) rfl args w
theorem enterPow2 (args : Array Value) (w : World) : (callFunc 31 args).run Try.prog w = .ok (.enter 31 args) w := by
  exact Go.Proofs.enters_of Try.func31 (by kernel_rfl) rfl args w

set_option maxHeartbeats 400000 in
theorem powPow_zero (c0 : Int) (A : Option Addr) (c m : Nat) (hm : 0 < m) (w : World) :
    Calls Try.prog 9 #[.int .i64 c0, .agg #[.slice A 0 c], .int .u64 m] w fun e w' => NatEnd c0 0 w e w' := by
  have hl := fun w => natLen A 0 c w
  have hm0 : (0 : Int) < m := by omega
  go_enter Try.func9, Try.ntmps9
  go_wp2_with fail
  refine (hl _).mono ?_
  rintro e w1 ⟨rfl, hb1⟩
  obtain ⟨rc1, rf1⟩ := bcell1 (b := w.heap.size + 1 + 1) (o := 0) hb1 (v := .slice none 0 0) (by simp [go_sem]) (by simp [go_sem])
  go_wp2_with fail
  refine bodyPost_ret (v := .tuple #[.agg #[.slice none 0 0], .bool true]) (by simp [results, Try.results9, go_sem, rc1]) rfl ?_
  have hb0 : Below w.heap.size w (((w.alloc (.cells #[.int .i64 c0] 33)).alloc (.cells #[.slice A 0 c] 29)).alloc (.cells #[.slice none 0 0] 29)) := by go_grown
  exact .inl ⟨Fit.zero c0, none, 0, 0, rfl, Num.zero _ _, (hb0.trans (hb1.mono (by simp; omega))).setCell (by simp; omega) _⟩

set_option maxHeartbeats 400000 in
theorem powPow_early (c0 : Int) {A : Option Addr} {n c N b m : Nat} {w : World} (h : Num w b A n c N) (hn : n ≤ 1000) (hm : m < LB) (hc : capN c0 ≤ 1000) (hnz : n ≠ 0 ∨ (n = 0 ∧ m = 0)) (hf : 64 * capN c0 ≤ pexp N * m) :
    Calls Try.prog 9 #[.int .i64 c0, .agg #[.slice A n c], .int .u64 m] w fun e w' => NatEnd c0 (N ^ m) w e w' := by
  have hl := fun w => natLen A n c w
  have hun : ¬ Fit c0 (N ^ m) := unfit_exp hf (by have := h.zero_iff; omega)
  have hb0 : Below w.heap.size w (((w.alloc (.cells #[.int .i64 c0] 33)).alloc (.cells #[.slice A n c] 29)).alloc (.cells #[.slice none 0 0] 29)) := by go_grown
  have hq := fun (w1 : World) (hb : Below w.heap.size w w1) => mayFit_no c0 (h.below hb) (by omega) hm hc hf
  have hun := Lib.hid hun
  clear h hf
  go_enter Try.func9, Try.ntmps9
  go_wp2_with fail
  refine (hl _).mono ?_
  rintro e w1 ⟨rfl, hb1⟩
  obtain ⟨ac1, af1⟩ := bcell1 (b := w.heap.size) (o := 0) hb1 (v := .int .i64 c0) (by simp [go_sem]) (by simp [go_sem])
  obtain ⟨bc1, bf1⟩ := bcell1 (b := w.heap.size + 1) (o := 0) hb1 (v := .slice A n c) (by simp [go_sem]) (by simp [go_sem])
  obtain ⟨rc1, rf1⟩ := bcell1 (b := w.heap.size + 1 + 1) (o := 0) hb1 (v := .slice none 0 0) (by simp [go_sem]) (by simp [go_sem])
  have hb2 := hb0.trans (hb1.mono (by simp; omega))
  have hs1 : w.heap.size + 1 + 1 < w1.heap.size := World.block_lt_of_cell? w1 ⟨w.heap.size + 1 + 1, 0, none⟩ rc1
  have hq1 := hq w1 hb2
  clear hq hl
  rcases hnz with hnz | ⟨rfl, rfl⟩ <;>
  (go_wp2_with fail
   refine hq1.mono ?_
   rintro e w2 ⟨rfl, hb3⟩
   obtain ⟨rc2, rf2⟩ := bcell1 (b := w.heap.size + 1 + 1) (o := 0) hb3 (v := .slice none 0 0) rc1 rf1
   go_wp2_with fail
   refine bodyPost_ret (v := .tuple #[.agg #[.slice none 0 0], .bool false]) (by simp [results, Try.results9, go_sem, rc2]) rfl ?_
   exact .inr ⟨hun.out, rfl, (hb2.trans (hb3.mono (by omega))).setCell (by simp; omega) _⟩)

theorem fit_one {c0 : Int} (h : 0 < capN c0) : Fit c0 1 := by
  unfold Fit
  exact Nat.one_lt_pow (by omega) (by unfold LB; omega)

theorem pow_start {w w3 : World} {c0 : Int} {N : Nat} {A B : Option Addr} {n c k d gc ga gr b : Nat} (h : Num w b A n c N) (hf : Fit c0 (N ^ 0)) (hc : w3.cell? ⟨gc, 0, none⟩ = some (.int .i64 c0)) (ha : w3.cell? ⟨ga, 0, none⟩ = some (.slice A n c))
    (hr : w3.cell? ⟨gr, 0, none⟩ = some (.slice none 0 0)) (hrf : w3.frozen? ⟨gr, 0, none⟩ = false) (h1 : gc < w3.heap.size ∧ ga < w3.heap.size) (h2 : w.heap.size ≤ gr) (h3 : gr < w3.heap.size) (hn : Num w3 (gr + 1) B k d 1) (hb : Below w.heap.size w w3) :
    PS w c0 N A n c gc w3.heap.size ga gr 0 (w3.alloc (.cells #[.slice B k d] 29)) := by
  have hba := (Below.refl w3.heap.size w3).alloc (Nat.le_refl _) (.cells #[.slice B k d] 29)
  have hn1 : ∀ ad, B = some ad → ad.block ≠ w3.heap.size := by
    obtain ⟨l, hl, _, _, _, _, _, h7, _⟩ := hn
    rintro ad rfl
    rcases Nat.eq_zero_or_pos k with h0 | h0
    · exact absurd (h7 h0).1 (by simp)
    · obtain ⟨ad2, e, hlt, _⟩ := hl.2 h0
      injection e with e; subst e; omega
  have hA : ∀ ad, A = some ad → ad.block ≠ w3.heap.size := by
    obtain ⟨l, hl, _, _, _, _, _, h7, _⟩ := h
    rintro ad rfl
    rcases Nat.eq_zero_or_pos n with h0 | h0
    · exact absurd (h7 h0).1 (by simp)
    · obtain ⟨ad2, e, hlt, _⟩ := hl.2 h0
      injection e with e; subst e; omega
  exact ⟨⟨(hba.cell (p := ⟨gc, 0, none⟩) h1.1).trans hc, (hba.cell (p := ⟨ga, 0, none⟩) h1.2).trans ha, ((h.below hb).below hba).mono (Nat.zero_le _), hA, (hba.cell (p := ⟨gr, 0, none⟩) h3).trans hr, (hba.frozen (p := ⟨gr, 0, none⟩) h3).trans hrf, frozen_new w3 _ _, ⟨_, cell_new w3 _ _⟩, ⟨by omega, by omega, by omega⟩, ⟨h2, h3⟩, hb.alloc hb.size _⟩, ⟨B, k, d, cell_new w3 _ _, hn.below hba, hn1⟩, hf⟩

set_option maxHeartbeats 4000000 in
theorem powPow_climb (c0 : Int) {A : Option Addr} {n c N b m : Nat} {w : World} (h : Num w b A n c N) (hn : n ≤ 1000) (hm : m < LB) (hc : capN c0 ≤ 1000) (hnz : n ≠ 0 ∨ (n = 0 ∧ m = 0)) (hf : pexp N * m < 64 * capN c0) :
    Calls Try.prog 9 #[.int .i64 c0, .agg #[.slice A n c], .int .u64 m] w fun e w' => NatEnd c0 (N ^ m) w e w' := by
  have hl := fun w => natLen A n c w
  have hfit1 : Hid (Fit c0 (N ^ 0)) := fit_one (by omega)
  have hmono : Hid (∀ k, k ≤ m → ¬ Fit c0 (N ^ k) → ¬ Fit c0 (N ^ m)) := by
    intro k hk hk2
    rcases hnz with h1 | ⟨_, h1⟩
    · exact unfit_mono hk2 (Nat.pow_le_pow_right (by have := h.zero_iff; omega) hk)
    · subst h1
      obtain rfl : k = 0 := by omega
      exact hk2
  have hb0 : Below w.heap.size w (((w.alloc (.cells #[.int .i64 c0] 33)).alloc (.cells #[.slice A n c] 29)).alloc (.cells #[.slice none 0 0] 29)) := by go_grown
  have hq := fun (w1 : World) (hb : Below w.heap.size w w1) => mayFit_yes c0 (h.below hb) (by omega) hm hc hf
  have H := Lib.hid h
  clear h hf
  go_enter Try.func9, Try.ntmps9
  go_wp2_with fail
  refine (hl _).mono ?_
  rintro e w1 ⟨rfl, hb1⟩
  obtain ⟨ac1, af1⟩ := bcell1 (b := w.heap.size) (o := 0) hb1 (v := .int .i64 c0) (by simp [go_sem]) (by simp [go_sem])
  obtain ⟨bc1, bf1⟩ := bcell1 (b := w.heap.size + 1) (o := 0) hb1 (v := .slice A n c) (by simp [go_sem]) (by simp [go_sem])
  obtain ⟨rc1, rf1⟩ := bcell1 (b := w.heap.size + 1 + 1) (o := 0) hb1 (v := .slice none 0 0) (by simp [go_sem]) (by simp [go_sem])
  have hb2 := hb0.trans (hb1.mono (by simp; omega))
  have hs1 : w.heap.size + 1 + 1 < w1.heap.size := World.block_lt_of_cell? w1 ⟨w.heap.size + 1 + 1, 0, none⟩ rc1
  have hq1 := hq w1 hb2
  clear hq hl
  have hnz2 : (n ≠ 0 ∧ 0 < 1) ∨ (((n : Int) == 0) = true ∧ ¬ ((0 : Int) < (m : Int))) := by
    rcases hnz with h1 | ⟨h1, h2⟩
    · exact .inl ⟨h1, by omega⟩
    · exact .inr ⟨by rw [h1]; rfl, by omega⟩
  clear hnz
  rcases hnz2 with ⟨k1, k2⟩ | ⟨k1, k2⟩ <;>
  (
    go_wp2_with fail
    refine hq1.mono ?_
    rintro e w2 ⟨rfl, hb3⟩
    obtain ⟨ac2, af2⟩ := bcell1 hb3 ac1 af1
    obtain ⟨bc2, bf2⟩ := bcell1 hb3 bc1 bf1
    obtain ⟨rc2, rf2⟩ := bcell1 hb3 rc1 rf1
    have hb4 := hb2.trans (hb3.mono (by omega))
    have hs2 : w.heap.size + 1 + 1 < w2.heap.size := World.block_lt_of_cell? w2 ⟨w.heap.size + 1 + 1, 0, none⟩ rc2
    clear ac1 af1 bc1 bf1 rc1 rf1 hq1 hb1 hb2 hb3
    go_wp2_with fail
    refine (of1 _).mono ?_
    rintro e w3 ⟨B, k, d, rfl, hnum, hk, hb5⟩
    obtain ⟨ac3, af3⟩ := bcell1 hb5 ac2 af2
    obtain ⟨bc3, bf3⟩ := bcell1 hb5 bc2 bf2
    obtain ⟨rc3, rf3⟩ := bcell1 hb5 rc2 rf2
    have hb6 := hb4.trans (hb5.mono (by omega))
    have hs3 : w.heap.size + 1 + 1 < w3.heap.size := World.block_lt_of_cell? w3 ⟨w.heap.size + 1 + 1, 0, none⟩ rc3
    clear ac2 af2 bc2 bf2 rc2 rf2 hb4
    have hst := pow_start (gc := w.heap.size) (ga := w.heap.size + 1) (gr := w.heap.size + 1 + 1) H.out hfit1.out ac3 bc3 rc3 rf3 (by omega) (by omega) (by omega) (hnum.mono (base' := w.heap.size + 1 + 1 + 1) (by omega)) hb6
    have hcl := climb 29 31 #[.pointer (some ⟨w.heap.size, 0, none⟩), .pointer (some ⟨w3.heap.size, 0, none⟩)] #[.pointer (some ⟨w.heap.size, 0, none⟩), .pointer (some ⟨w3.heap.size, 0, none⟩), .pointer (some ⟨w.heap.size + 1, 0, none⟩)]
      m hm (w3.alloc (.cells #[.slice B k d] 29)) (fun k W => PS w c0 N A n c w.heap.size w3.heap.size (w.heap.size + 1) (w.heap.size + 1 + 1) k W) (fun k => Fit c0 (N ^ k)) (fun W => PE w c0 N A n c w.heap.size w3.heap.size (w.heap.size + 1) (w.heap.size + 1 + 1) W)
      enterPow1 enterPow2 (fun o => hst.keep ((Below.refl _ _).alloc (Nat.le_refl _) o)) (fun k W _ h hg => sq_yes hc h (size_new w3 _) hg) (fun k W _ h hg => sq_no hc h hg) (fun k W _ h hg => tm_yes hc hn h (size_new w3 _) hg) (fun k W _ h hg => tm_no hc hn h hg)
    clear hst
    have HF := Lib.hid hnum
    clear hnum hb5 hb6
    go_wp2_with fail
    refine hcl.mono ?_
    rintro e w4 (⟨rfl, hps⟩ | ⟨rfl, hpe, k2, hk2, hk3⟩)
    · obtain ⟨B2, m2, d2, hcp, hn2, hfar2⟩ := hps.pow
      have hrc := hps.env.res
      have hrf := hps.env.resF
      go_wp2_with fail
      refine bodyPost_ret (v := .tuple #[.agg #[.slice B2 m2 d2], .bool true]) (by simp [results, Try.results9, go_sem, hrc]) rfl ?_
      exact .inl ⟨hps.fit, B2, m2, d2, rfl, (hn2.setCell (p := ⟨w.heap.size + 1 + 1, 0, none⟩) (by simp) _).mono (by omega), hps.env.below.setCell (by simp; omega) _⟩
    · have hrc := hpe.res
      have hrf := hpe.resF
      have hk3 := Lib.hid hk3
      go_wp2_with fail
      refine bodyPost_ret (v := .tuple #[.agg #[.slice none 0 0], .bool false]) (by simp [results, Try.results9, go_sem, hrc]) rfl ?_
      exact .inr ⟨hmono.out k2 hk2 hk3.out, rfl, hpe.below.setCell (by simp; omega) _⟩)

/-- A power, and whether it fits. -/
theorem powPow (c0 : Int) {A : Option Addr} {n c N b m : Nat} {w : World} (h : Num w b A n c N) (hn : n ≤ 1000) (hm : m < LB) (hc : capN c0 ≤ 1000) :
    Calls Try.prog 9 #[.int .i64 c0, .agg #[.slice A n c], .int .u64 m] w fun e w' => NatEnd c0 (N ^ m) w e w' := by
  by_cases h0 : n = 0 ∧ 0 < m
  · obtain ⟨rfl, hm0⟩ := h0
    have e : N ^ m = 0 := by rw [h.zero_iff.1 rfl]; exact Nat.zero_pow hm0
    rw [e]
    exact powPow_zero c0 A c m hm0 w
  · rcases Nat.lt_or_ge (pexp N * m) (64 * capN c0) with hf | hf
    · exact powPow_climb c0 h hn hm hc (by omega) hf
    · exact powPow_early c0 h hn hm hc (by omega) hf
theorem NatEnd.yes {c0 : Int} {V : Nat} {w w' : World} {e : Ending} (h : NatEnd c0 V w e w') (hf : Fit c0 V) : ∃ A1 n1 c1, e = .returned (.tuple #[.agg #[.slice A1 n1 c1], .bool true]) ∧ Num w' w.heap.size A1 n1 c1 V ∧ n1 ≤ capN c0 ∧ Below w.heap.size w w' := by
  rcases h with ⟨_, A1, n1, c1, h1, h2, h3⟩ | ⟨h1, _⟩
  · exact ⟨A1, n1, c1, h1, h2, h2.len_fit hf, h3⟩
  · exact absurd hf h1
theorem NatEnd.no {c0 : Int} {V : Nat} {w w' : World} {e : Ending} (h : NatEnd c0 V w e w') (hf : ¬ Fit c0 V) : e = .returned (.tuple #[.agg #[.slice none 0 0], .bool false]) ∧ Below w.heap.size w w' := by
  rcases h with ⟨h1, _⟩ | ⟨_, h2⟩
  · exact absurd h1 hf
  · exact h2
end Go.Proofs.Ythcnopopkgelhaa
