/- The contract of power's Sum. -/
import Derived.Test.YthcnopopkgelhaaPowF
namespace Go.Proofs.Ythcnopopkgelhaa
open Go.RowKit

theorem StepEnd.yes {G : Prop} {S B : World → Prop} {e : Ending} {w' : World} (h : StepEnd G S B e w') (hg : G) : e = .returned (.bool true) ∧ S w' := by
  rcases h with ⟨_, h⟩ | ⟨h, _⟩
  · exact h
  · exact absurd hg h
theorem StepEnd.no {G : Prop} {S B : World → Prop} {e : Ending} {w' : World} (h : StepEnd G S B e w') (hg : ¬ G) : e = .returned (.bool false) ∧ B w' := by
  rcases h with ⟨h, _⟩ | ⟨_, h⟩
  · exact absurd h hg
  · exact h
theorem enterSum1 (args : Array Value) (w : World) : (callFunc 36 args).run Try.prog w = .ok (.enter 36 args) w := by
  exact Go.Proofs.enters_of Try.func36 (by kernel_rfl) rfl args w
theorem enterSum2 (args : Array Value) (w : World) : (callFunc 37 args).run Try.prog w = .ok (.enter 37 args) w := by
  exact Go.Proofs.enters_of Try.func37 (by kernel_rfl) rfl args w

theorem unfit_psum {c0 : Int} {N m : Nat} (h : 64 * capN c0 ≤ pexp N * m) : ¬ Fit c0 (psum N m) := by
  by_cases h0 : N = 0
  · subst h0
    have e : pexp 0 = 0 := by unfold pexp; rw [nbits_zero]; rfl
    rw [e] at h
    have : capN c0 = 0 := by omega
    unfold Fit
    rw [this, psum_zero]
    simp
  · exact unfit_mono (unfit_exp h (.inl h0)) (pow_le_psum N m)

set_option maxHeartbeats 400000 in
theorem powSum_early (c0 : Int) {A : Option Addr} {n c N b m : Nat} {w : World} (h : Num w b A n c N) (hn : n ≤ 1000) (hm : m < LB) (hc : capN c0 ≤ 1000) (hf : 64 * capN c0 ≤ pexp N * m) :
    Calls Try.prog 12 #[.int .i64 c0, .agg #[.slice A n c], .int .u64 m] w fun e w' => NatEnd c0 (psum N m) w e w' := by
  have hun := Lib.hid (unfit_psum hf)
  have hb0 : Below w.heap.size w (((w.alloc (.cells #[.int .i64 c0] 33)).alloc (.cells #[.slice A n c] 29)).alloc (.cells #[.slice none 0 0] 29)) := by go_grown
  have hq1 := mayFit_no c0 (h.below hb0) (by omega) hm hc hf
  clear h hf
  go_enter Try.func12, Try.ntmps12
  go_wp2_with fail
  refine hq1.mono ?_
  rintro e w2 ⟨rfl, hb3⟩
  obtain ⟨rc2, rf2⟩ := bcell1 (b := w.heap.size + 1 + 1) (o := 0) hb3 (v := .slice none 0 0) (by simp [go_sem]) (by simp [go_sem])
  go_wp2_with fail
  refine bodyPost_ret (v := .tuple #[.agg #[.slice none 0 0], .bool false]) (by simp [results, Try.results12, go_sem, rc2]) rfl ?_
  exact .inr ⟨hun.out, rfl, (hb0.trans (hb3.mono (by simp; omega))).setCell (by simp; omega) _⟩

theorem sum_start {w w3 : World} {c0 : Int} {N : Nat} {A B : Option Addr} {n c k d gc ga gr b : Nat} (h : Num w b A n c N) (hf : Fit c0 (N ^ 0)) (hc : w3.cell? ⟨gc, 0, none⟩ = some (.int .i64 c0)) (ha : w3.cell? ⟨ga, 0, none⟩ = some (.slice A n c))
    (hr : w3.cell? ⟨gr, 0, none⟩ = some (.slice none 0 0)) (hrf : w3.frozen? ⟨gr, 0, none⟩ = false) (h1 : gc < w3.heap.size ∧ ga < w3.heap.size) (h2 : w.heap.size ≤ gr) (h3 : gr < w3.heap.size) (hn : Num w3 (gr + 1) B k d 1) (hb : Below w.heap.size w w3) :
    SS w c0 N A n c gc w3.heap.size (w3.heap.size + 1) ga gr 0 ((w3.alloc (.cells #[.slice B k d] 29)).alloc (.cells #[.slice none 0 0] 29)) := by
  have hba0 := (Below.refl w3.heap.size w3).alloc (Nat.le_refl _) (.cells #[.slice B k d] 29)
  have hba := hba0.alloc (Nat.le_of_lt (size_new w3 _)) (.cells #[.slice none 0 0] 29)
  have hbb := (Below.refl (w3.alloc (.cells #[.slice B k d] 29)).heap.size (w3.alloc (.cells #[.slice B k d] 29))).alloc (Nat.le_refl _) (.cells #[.slice none 0 0] 29)
  have hn1 : ∀ ad, B = some ad → ad.block < w3.heap.size := by
    obtain ⟨l, hl, _, _, _, _, _, h7, _⟩ := hn
    rintro ad rfl
    rcases Nat.eq_zero_or_pos k with h0 | h0
    · exact absurd (h7 h0).1 (by simp)
    · obtain ⟨ad2, e, hlt, _⟩ := hl.2 h0
      injection e with e; subst e; exact hlt
  have hA : ∀ ad, A = some ad → ad.block < w3.heap.size := by
    obtain ⟨l, hl, _, _, _, _, _, h7, _⟩ := h.below hb
    rintro ad rfl
    rcases Nat.eq_zero_or_pos n with h0 | h0
    · exact absurd (h7 h0).1 (by simp)
    · obtain ⟨ad2, e, hlt, _⟩ := hl.2 h0
      injection e with e; subst e; exact hlt
  have es : (w3.alloc (.cells #[.slice B k d] 29)).heap.size = w3.heap.size + 1 := by simp
  have c1 := cell_new (w3.alloc (.cells #[.slice B k d] 29)) (.slice none 0 0) 29
  have f1 := frozen_new (w3.alloc (.cells #[.slice B k d] 29)) (.slice none 0 0) 29
  have c0' := (hbb.cell (p := ⟨w3.heap.size, 0, none⟩) (size_new w3 _)).trans (cell_new w3 (.slice B k d) 29)
  have f0' := (hbb.frozen (p := ⟨w3.heap.size, 0, none⟩) (size_new w3 _)).trans (frozen_new w3 (.slice B k d) 29)
  rw [es] at c1 f1
  exact ⟨⟨(hba.cell (p := ⟨gc, 0, none⟩) h1.1).trans hc, (hba.cell (p := ⟨ga, 0, none⟩) h1.2).trans ha, ((h.below hb).below hba).mono (Nat.zero_le _), fun ad e => by have := hA ad e; omega, (hba.cell (p := ⟨gr, 0, none⟩) h3).trans hr, (hba.frozen (p := ⟨gr, 0, none⟩) h3).trans hrf,
    f0', ⟨_, c0'⟩, f1, ⟨_, c1⟩, ⟨by omega, by omega, by omega, by omega⟩, ⟨h2, h3, by omega⟩, (hb.alloc hb.size _).alloc (Nat.le_trans hb.size (Nat.le_of_lt (size_new w3 _))) _⟩,
    ⟨B, k, d, c0', hn.below hba, fun ad e => by have := hn1 ad e; omega⟩, ⟨none, 0, 0, c1, Num.zero _ _, fun ad e => by cases e⟩, hf, LB_pos⟩

set_option maxHeartbeats 4000000 in
theorem powSum_climb (c0 : Int) {A : Option Addr} {n c N b m : Nat} {w : World} (h : Num w b A n c N) (hn : n ≤ 1000) (hm : m < LB) (hc : capN c0 ≤ 1000) (hf : pexp N * m < 64 * capN c0) :
    Calls Try.prog 12 #[.int .i64 c0, .agg #[.slice A n c], .int .u64 m] w fun e w' => NatEnd c0 (psum N m) w e w' := by
  have hfit1 : Hid (Fit c0 (N ^ 0)) := fit_one (by omega)
  have hmono : Hid (∀ k, k ≤ m → ¬ Fit c0 (N ^ k) → ¬ Fit c0 (psum N m)) := fun k hk hk2 => unfit_mono hk2 (Nat.le_trans (pow_le_psum N k) (psum_mono N hk))
  have hb0 : Below w.heap.size w (((w.alloc (.cells #[.int .i64 c0] 33)).alloc (.cells #[.slice A n c] 29)).alloc (.cells #[.slice none 0 0] 29)) := by go_grown
  have hq1 := mayFit_yes c0 (h.below hb0) (by omega) hm hc hf
  have H := Lib.hid h
  clear h hf
  go_enter Try.func12, Try.ntmps12
  go_wp2_with fail
  refine hq1.mono ?_
  rintro e w2 ⟨rfl, hb3⟩
  obtain ⟨ac2, af2⟩ := bcell1 (b := w.heap.size) (o := 0) hb3 (v := .int .i64 c0) (by simp [go_sem]) (by simp [go_sem])
  obtain ⟨bc2, bf2⟩ := bcell1 (b := w.heap.size + 1) (o := 0) hb3 (v := .slice A n c) (by simp [go_sem]) (by simp [go_sem])
  obtain ⟨rc2, rf2⟩ := bcell1 (b := w.heap.size + 1 + 1) (o := 0) hb3 (v := .slice none 0 0) (by simp [go_sem]) (by simp [go_sem])
  have hb4 := hb0.trans (hb3.mono (by simp; omega))
  have hs2 : w.heap.size + 1 + 1 < w2.heap.size := World.block_lt_of_cell? w2 ⟨w.heap.size + 1 + 1, 0, none⟩ rc2
  clear hq1 hb3
  go_wp2_with fail
  refine (of1 _).mono ?_
  rintro e w3 ⟨B, k, d, rfl, hnum, hk, hb5⟩
  obtain ⟨ac3, af3⟩ := bcell1 hb5 ac2 af2
  obtain ⟨bc3, bf3⟩ := bcell1 hb5 bc2 bf2
  obtain ⟨rc3, rf3⟩ := bcell1 hb5 rc2 rf2
  have hb6 := hb4.trans (hb5.mono (by omega))
  have hs3 : w.heap.size + 1 + 1 < w3.heap.size := World.block_lt_of_cell? w3 ⟨w.heap.size + 1 + 1, 0, none⟩ rc3
  clear ac2 af2 bc2 bf2 rc2 rf2 hb4
  have hst := sum_start (gc := w.heap.size) (ga := w.heap.size + 1) (gr := w.heap.size + 1 + 1) H.out hfit1.out ac3 bc3 rc3 rf3 (by omega) (by omega) (by omega) (hnum.mono (base' := w.heap.size + 1 + 1 + 1) (by omega)) hb6
  have hgb : w3.heap.size + 1 < ((w3.alloc (.cells #[.slice B k d] 29)).alloc (.cells #[.slice none 0 0] 29)).heap.size := by simp
  have hcl := climb 36 37 #[.pointer (some ⟨w3.heap.size + 1, 0, none⟩), .pointer (some ⟨w3.heap.size, 0, none⟩), .pointer (some ⟨w.heap.size, 0, none⟩)] #[.pointer (some ⟨w3.heap.size + 1, 0, none⟩), .pointer (some ⟨w3.heap.size, 0, none⟩), .pointer (some ⟨w.heap.size, 0, none⟩), .pointer (some ⟨w.heap.size + 1, 0, none⟩)]
    m hm ((w3.alloc (.cells #[.slice B k d] 29)).alloc (.cells #[.slice none 0 0] 29)) (fun k W => SS w c0 N A n c w.heap.size w3.heap.size (w3.heap.size + 1) (w.heap.size + 1) (w.heap.size + 1 + 1) k W) (fun k => Fit c0 (N ^ k)) (fun W => SE w c0 N A n c w.heap.size w3.heap.size (w3.heap.size + 1) (w.heap.size + 1) (w.heap.size + 1 + 1) W)
    enterSum1 enterSum2 (fun o => hst.keep ((Below.refl _ _).alloc (Nat.le_refl _) o)) (fun k W hk h hg => (ssq hc h hgb (by omega)).mono fun e w' hs => (hs.yes hg)) (fun k W hk h hg => (ssq hc h hgb (by omega)).mono fun e w' hs => (hs.no hg)) (fun k W hk h hg => (stm hc hn h hgb (by omega)).mono fun e w' hs => (hs.yes hg)) (fun k W hk h hg => (stm hc hn h hgb (by omega)).mono fun e w' hs => (hs.no hg))
  clear hst
  have HF := Lib.hid hnum
  clear hnum hb5 hb6 hgb
  go_wp2_with fail
  refine hcl.mono ?_
  rintro e w4 (⟨rfl, hps⟩ | ⟨rfl, hpe, k2, hk2, hk3⟩)
  · obtain ⟨B2, m2, d2, hcp, hn2, hfar2⟩ := hps.pow
    obtain ⟨D2, q2, e2, hcb, hn3, hfar3⟩ := hps.bel
    have hrc := hps.env.res
    have hrf := hps.env.resF
    have hca := hps.env.cap
    have hlp := hn2.len_fit hps.fit
    have hlb := sum_len hn3 hps.fit hps.lt
    have hlt4 := hps.env.lt
    have heq := gsum_psum N m
    have HPS := Lib.hid hps
    by_cases hfin : Fit c0 (psum N m)
    · have hadd := capAdd_yes c0 hn3 hn2 (by omega) (by omega) (by rw [heq]; exact hfin)
      rw [heq] at hadd
      have HFIN := Lib.hid hfin
      clear hfin heq hps hcl
      go_wp2_with fail
      refine hadd.mono ?_
      rintro e w5 ⟨A5, n5, c5, rfl, hnum5, hl5, hb7⟩
      obtain ⟨rc5, rf5⟩ := bcell1 hb7 hrc hrf
      go_wp2_with fail
      refine bodyPost_ret (v := .tuple #[.agg #[.slice A5 n5 c5], .bool true]) (by simp [results, Try.results12, go_sem, rc5]) rfl ?_
      exact .inl ⟨HFIN.out, A5, n5, c5, rfl, (hnum5.setCell (p := ⟨w.heap.size + 1 + 1, 0, none⟩) (by simp; omega) _).mono (by omega), (HPS.out.env.below.trans (hb7.mono (by omega))).setCell (by simp; omega) _⟩
    · have hadd := capAdd_no c0 hn3 hn2 (by omega) (by omega) (by rw [heq]; exact hfin)
      have HFIN := Lib.hid hfin
      clear hfin heq hps hcl
      go_wp2_with fail
      refine hadd.mono ?_
      rintro e w5 ⟨rfl, hb7⟩
      obtain ⟨rc5, rf5⟩ := bcell1 hb7 hrc hrf
      go_wp2_with fail
      refine bodyPost_ret (v := .tuple #[.agg #[.slice none 0 0], .bool false]) (by simp [results, Try.results12, go_sem, rc5]) rfl ?_
      exact .inr ⟨HFIN.out, rfl, (HPS.out.env.below.trans (hb7.mono (by omega))).setCell (by simp; omega) _⟩
  · have hrc := hpe.res
    have hrf := hpe.resF
    have hk3 := Lib.hid hk3
    clear hcl
    go_wp2_with fail
    refine bodyPost_ret (v := .tuple #[.agg #[.slice none 0 0], .bool false]) (by simp [results, Try.results12, go_sem, hrc]) rfl ?_
    exact .inr ⟨hmono.out k2 hk2 hk3.out, rfl, hpe.below.setCell (by simp; omega) _⟩

/-- A sum of powers, and whether it fits. -/
theorem powSum (c0 : Int) {A : Option Addr} {n c N b m : Nat} {w : World} (h : Num w b A n c N) (hn : n ≤ 1000) (hm : m < LB) (hc : capN c0 ≤ 1000) :
    Calls Try.prog 12 #[.int .i64 c0, .agg #[.slice A n c], .int .u64 m] w fun e w' => NatEnd c0 (psum N m) w e w' := by
  rcases Nat.lt_or_ge (pexp N * m) (64 * capN c0) with hf | hf
  · exact powSum_climb c0 h hn hm hc hf
  · exact powSum_early c0 h hn hm hc hf

/-- A power of two, and whether it fits. -/
theorem powTwo (c0 : Int) (m : Nat) (hm : m < LB) (hc : capN c0 ≤ 1000) (w : World) :
    Calls Try.prog 14 #[.int .i64 c0, .int .u64 m] w fun e w' => NatEnd c0 (2 ^ m) w e w' := by
  have hfit : Fit c0 (2 ^ m) ↔ m / 64 < capN c0 := by
    unfold Fit
    rw [LB_pow]
    constructor
    · intro h
      rcases Nat.lt_or_ge (m / 64) (capN c0) with h1 | h1
      · exact h1
      · have := Nat.pow_le_pow_right (n := 2) (by omega) (show 64 * capN c0 ≤ m by omega)
        omega
    · intro h
      exact Nat.pow_lt_pow_right (by omega) (by omega)
  rcases Nat.lt_or_ge (m / 64) (capN c0) with h | h
  · refine (powTwo_yes c0 m hm h hc w).mono ?_
    rintro e w' ⟨A1, n1, c1, h1, h2, _, h4⟩
    exact .inl ⟨hfit.2 h, A1, n1, c1, h1, h2, h4⟩
  · refine (powTwo_no c0 m hm h hc w).mono ?_
    rintro e w' ⟨h1, h2⟩
    exact .inr ⟨fun hf => by have := hfit.1 hf; omega, h1, h2⟩
end Go.Proofs.Ythcnopopkgelhaa
