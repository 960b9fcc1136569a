/- Expressions that are the same: the reference of layer 6. -/
import Derived.Test.YtkmioieanopafaaDoorAstE
namespace Go.Proofs.YtkmioieanopafaaDoor
open Go.RowKit

mutual
/-- Are two the same, positions aside? -/
def smx1 : XV → XV → Bool
  | .mk k n x o gs _ _, .mk k' n' x' o' gs' _ _ => k == k' && (n == n' && (x == x' && (o == o' && smx gs gs')))
def smx : List XV → List XV → Bool
  | [], [] => true
  | a :: r, b :: s => smx1 a b && smx r s
  | [], _ :: _ => false
  | _ :: _, [] => false
end
theorem smx1_eq (a b : XV) : smx1 a b = (a.k == b.k && (a.n == b.n && (a.x == b.x && (a.o == b.o && smx a.gs b.gs)))) := by
  cases a; cases b; simp [smx1, XV.k, XV.n, XV.x, XV.o, XV.gs]
theorem smx_len : ∀ {r s : List XV}, smx r s = true → r.length = s.length
  | [], [], _ => rfl
  | a :: r, b :: s, h => by
    simp only [smx, Bool.and_eq_true] at h
    simp [smx_len h.2]
  | [], b :: s, h => by simp [smx] at h
  | a :: r, [], h => by simp [smx] at h
theorem smx_at : ∀ {r s : List XV}, smx r s = true → ∀ {i : Nat} {a b : XV}, r[i]? = some a → s[i]? = some b → smx1 a b = true
  | [], _, _, i, a, b, ha, _ => by simp at ha
  | _ :: _, [], _, i, a, b, _, hb => by simp at hb
  | a :: r, b :: s, h, i, x, y, ha, hb => by
    simp only [smx, Bool.and_eq_true] at h
    cases i with
    | zero => simp at ha hb; rw [← ha, ← hb]; exact h.1
    | succ i => exact smx_at h.2 (i := i) (by simpa using ha) (by simpa using hb)
theorem smx_yes : ∀ {r s : List XV}, r.length = s.length → (∀ i a b, i < r.length → r[i]? = some a → s[i]? = some b → smx1 a b = true) → smx r s = true
  | [], [], _, _ => by simp [smx]
  | [], b :: s, h, _ => by simp at h
  | a :: r, [], h, _ => by simp at h
  | a :: r, b :: s, h, hh => by
    simp only [smx, Bool.and_eq_true]
    exact ⟨hh 0 a b (by simp) rfl rfl, smx_yes (by simpa using h) fun i x y hi hx hy => hh (i + 1) x y (by simpa using hi) (by simpa using hx) (by simpa using hy)⟩
theorem smx_nolen {r s : List XV} (h : ¬ r.length = s.length) : smx r s = false := by
  rw [Bool.eq_false_iff]; exact fun e => h (smx_len e)
theorem smx_noat {r s : List XV} {i : Nat} {a b : XV} (ha : r[i]? = some a) (hb : s[i]? = some b) (h : smx1 a b = false) : smx r s = false := by
  rw [Bool.eq_false_iff]
  intro e
  rw [smx_at e ha hb] at h
  cases h
mutual
theorem smx1_refl : ∀ e : XV, smx1 e e = true
  | .mk k n x o gs l c => by simp [smx1, smx_refl gs]
theorem smx_refl : ∀ es : List XV, smx es es = true
  | [] => by simp [smx]
  | e :: r => by simp [smx, smx1_refl e, smx_refl r]
end
theorem text_eq {a b : List UInt8} (h : a = b) : ((⟨a.toArray⟩ : ByteArray).toList == (⟨b.toArray⟩ : ByteArray).toList) = true := eq_texts6 h

/-- The cells of one of a row. -/
def XCells (W : World) (p : Addr) (e : XV) (A : Option Addr) (m cap : Nat) : Prop := W.cell? p = some (.int .i64 e.k) ∧ W.cell? ⟨p.block, p.off + 1, none⟩ = some (.int .i64 e.n) ∧ W.cell? ⟨p.block, p.off + 2, none⟩ = some (.string ⟨e.x.toArray⟩) ∧ W.cell? ⟨p.block, p.off + 3, none⟩ = some (.int .i64 e.o) ∧ W.cell? ⟨p.block, p.off + 4, none⟩ = some (.slice A m cap) ∧ W.cell? ⟨p.block, p.off + 5, none⟩ = some (.int .i64 e.l) ∧ W.cell? ⟨p.block, p.off + 6, none⟩ = some (.int .i64 e.c)
def SameX1 (N : Nat) : Prop := ∀ (e f : XV), xsz1 e ≤ N → ∀ (A : Option Addr) (ca : Nat) (B : Option Addr) (cb : Nat) (w : World), e.gs.length ≤ 4611686018427387904 → XR w A e.gs → XR w B f.gs → Calls Tryd.prog 42 #[xval e A ca, xval f B cb] w fun v w' => v = .returned (.bool (smx1 e f)) ∧ Below w.heap.size w w'
def SameXs (N : Nat) : Prop := ∀ (r s : List XV), xsz r ≤ N → N ≤ 4611686018427387904 → ∀ (A : Option Addr) (ca : Nat) (B : Option Addr) (cb : Nat) (w : World), XR w A r → XR w B s → Calls Tryd.prog 82 #[.slice A r.length ca, .slice B s.length cb] w fun v w' => v = .returned (.bool (smx r s)) ∧ Below w.heap.size w w'

set_option maxHeartbeats 4000000 in
theorem refSameX1 (N : Nat) (hN : N ≤ 4611686018427387904) (hS : ∀ M, M < N → SameXs M) : SameX1 N := by
  intro e f hb A ca B cb w _ hx hy
  rw [xsz1_eq] at hb
  have hq := Lib.hid (fun W (h1 : XR W A e.gs) (h2 : XR W B f.gs) => hS (xsz e.gs) (by omega) e.gs f.gs (Nat.le_refl _) (by omega) A ca B cb W h1 h2)
  obtain ⟨b, hbb⟩ : ∃ b, b = smx1 e f := ⟨_, rfl⟩
  rw [← hbb]
  rw [smx1_eq] at hbb
  have HB := Lib.hid hbb
  have hX := Lib.hid (And.intro hx hy)
  have hB1 := Lib.hid (bnew5 w (.cells [.int .i64 e.k, .int .i64 e.n, .string ⟨e.x.toArray⟩, .int .i64 e.o, .slice A e.gs.length ca, .int .i64 e.l, .int .i64 e.c].toArray 72))
  have hB2 := Lib.hid (bth5 hB1.out (bnew5 (w.alloc (.cells [.int .i64 e.k, .int .i64 e.n, .string ⟨e.x.toArray⟩, .int .i64 e.o, .slice A e.gs.length ca, .int .i64 e.l, .int .i64 e.c].toArray 72)) (.cells [.int .i64 f.k, .int .i64 f.n, .string ⟨f.x.toArray⟩, .int .i64 f.o, .slice B f.gs.length cb, .int .i64 f.l, .int .i64 f.c].toArray 72)))
  clear hbb hx hy hb hS hB1
  unfold xval
  generalize smx e.gs f.gs = sm at *
  cases e with
  | mk k n x o gs l c =>
  cases f with
  | mk k' n' x' o' gs' l' c' =>
  simp only [XV.k, XV.n, XV.x, XV.o, XV.gs, XV.l, XV.c] at *
  have hc : (¬ k = k') ∨ (k = k' ∧ ¬ n = n') ∨ (k = k' ∧ n = n' ∧ ¬ x = x') ∨ (k = k' ∧ n = n' ∧ x = x' ∧ ¬ o = o') ∨ (k = k' ∧ n = n' ∧ x = x' ∧ o = o') := by
    by_cases h1 : k = k' <;> by_cases h2 : n = n' <;> by_cases h3 : x = x' <;> by_cases h4 : o = o' <;> simp [*]
  rcases hc with h | ⟨rfl, h⟩ | ⟨rfl, rfl, h⟩ | ⟨rfl, rfl, rfl, h⟩ | ⟨rfl, rfl, rfl, rfl⟩
  · have e1 : (k == k') = false := by simp [h]
    have hv : Hid (b = false) := by show b = _; rw [HB.out]; simp [h]
    clear HB
    go_enter Tryd.func42, Tryd.ntmps42
    go_wp2_with fail
    go_ret
    exact ⟨by rw [hv.out]; rfl, hB2.out⟩
  · have e1 : (n == n') = false := by simp [h]
    have hv : Hid (b = false) := by show b = _; rw [HB.out]; simp [h]
    clear HB
    go_enter Tryd.func42, Tryd.ntmps42
    go_wp2_with fail
    go_ret
    exact ⟨by rw [hv.out]; rfl, hB2.out⟩
  · have e1 := ne_texts6 h
    have hv : Hid (b = false) := by show b = _; rw [HB.out]; simp [h]
    clear HB
    generalize (⟨x.toArray⟩ : ByteArray) = xs at *
    generalize (⟨x'.toArray⟩ : ByteArray) = ys at *
    go_enter Tryd.func42, Tryd.ntmps42
    go_wp2_with fail
    go_ret
    exact ⟨by rw [hv.out]; rfl, hB2.out⟩
  · have e1 : (o == o') = false := by simp [h]
    have hv : Hid (b = false) := by show b = _; rw [HB.out]; simp [h]
    clear HB
    generalize (⟨x.toArray⟩ : ByteArray) = xs at *
    have ex : (xs.toList == xs.toList) = true := by simp
    go_enter Tryd.func42, Tryd.ntmps42
    go_wp2_with fail
    go_ret
    exact ⟨by rw [hv.out]; rfl, hB2.out⟩
  · have hv : Hid (b = sm) := by show b = _; rw [HB.out]; simp
    clear HB
    generalize (⟨x.toArray⟩ : ByteArray) = xs at *
    have ex : (xs.toList == xs.toList) = true := by simp
    have hq2 := hq.out _ (hX.out.1.step (hB2.out.mono (Nat.le_refl _))) (hX.out.2.step (hB2.out.mono (Nat.le_refl _)))
    clear hq
    go_enter Tryd.func42, Tryd.ntmps42
    go_wp2_with fail
    refine hq2.mono ?_
    rintro v w1 ⟨rfl, hw1⟩
    go_wp2_with fail
    go_ret
    exact ⟨by rw [hv.out]; rfl, bth5 hB2.out hw1⟩

set_option maxHeartbeats 4000000 in
theorem refSameXs (N : Nat) (hS : SameX1 N) : SameXs N := by
  intro r s hr hN A ca B cb w hx hy
  obtain ⟨b, hb⟩ : ∃ b, b = smx r s := ⟨_, rfl⟩
  rw [← hb]
  have HB := Lib.hid hb
  have HS := Lib.hid hS
  have hX := Lib.hid (And.intro hx hy)
  have hG := Lib.hid hr
  have hlen := xsz_len r
  by_cases hl : r.length = s.length
  · rw [← hl]
    have HL := Lib.hid hl
    obtain ⟨m, hm⟩ : ∃ m, m = r.length := ⟨_, rfl⟩
    have HM := Lib.hid hm
    rw [← hm] at hlen ⊢
    have hml : m ≤ 4611686018427387904 := by omega
    clear hb hx hy hr hlen hS hl hm
    go_enter Tryd.func82, Tryd.ntmps82
    go_wp2_with fail
    go_loopw [5] (fun v W => ∃ i : Nat, i ≤ m ∧ v = .int .i64 i ∧ Hid (∀ j a b, j < i → r[j]? = some a → s[j]? = some b → smx1 a b = true) ∧ Hid (Below w.heap.size w W)) (fun v _ => m - (intOf v).toNat)
    case atStart => exact ⟨0, by omega, rfl, fun j _ _ hj => absurd hj (by omega), Below.refl _ _⟩
    case round =>
      obtain ⟨i, hi, rfl, hst, hbw⟩ := hrel
      by_cases hlt : i < m
      · have hlt' : (i : Int) < m := by omega
        have hd := Lib.hid (bth5 hbw.out (Below.refl wr.heap.size wr).drew)
        obtain ⟨ad, e, rfl, he, A', ca', e0, e1, e2, e3, e4, e5, e6, hx'⟩ := (hX.out.1.step hd.out).el (i := i) (by rw [← HM.out]; exact hlt)
        obtain ⟨ad2, f, rfl, hf, B', cb', f0, f1, f2, f3, f4, f5, f6, hy'⟩ := (hX.out.2.step hd.out).el (i := i) (by rw [← HL.out, ← HM.out]; exact hlt)
        have hz := xsz_get he
        have hz2 := xsz_len e.gs
        have hz3 := xsz1_eq e
        have hq2 := HS.out e f (by have := hG.out; omega) A' ca' B' cb' wr.drew (by have := hG.out; omega) hx' hy'
        have HE := Lib.hid (And.intro he hf)
        unfold xval at hq2
        have s0 := And.intro (And.intro e0 (And.intro e1 (And.intro e2 (And.intro e3 (And.intro e4 (And.intro e5 e6)))))) (And.intro f0 (And.intro f1 (And.intro f2 (And.intro f3 (And.intro f4 (And.intro f5 f6))))))
        have HST : Hid (smx1 e f = true → Hid (∀ j a b, j < i + 1 → r[j]? = some a → s[j]? = some b → smx1 a b = true)) := fun hr j a b hj ha hb => by
          rcases Nat.lt_or_ge j i with h | h
          · exact hst.out j a b h ha hb
          · obtain rfl : j = i := by omega
            have t1 := HE.out.1.symm.trans ha
            have t2 := HE.out.2.symm.trans hb
            injection t1 with t1
            injection t2 with t2
            rw [← t1, ← t2]; exact hr
        have HNO : Hid (smx1 e f = false → b = false) := fun hr => by rw [HB.out]; exact smx_noat HE.out.1 HE.out.2 hr
        clear e0 e1 e2 e3 e4 e5 e6 f0 f1 f2 f3 f4 f5 f6 he hf hx' hy' hz hz2 hz3 hst HE HB
        generalize smx1 e f = sm at *
        cases e with
        | mk k n x o gs l c =>
        cases f with
        | mk k' n' x' o' gs' l' c' =>
        simp only [XV.k, XV.n, XV.x, XV.o, XV.gs, XV.l, XV.c] at *
        generalize (⟨x.toArray⟩ : ByteArray) = xs at *
        generalize (⟨x'.toArray⟩ : ByteArray) = ys at *
        generalize gs.length = gm at *
        generalize gs'.length = gm' at *
        go_wp2_with fail
        go_region_held3 (fun w' => (w'.cell? (ad.add (i * 7)) = some (.int .i64 k) ∧ w'.cell? ⟨(ad.add (i * 7)).block, (ad.add (i * 7)).off + 1, none⟩ = some (.int .i64 n) ∧ w'.cell? ⟨(ad.add (i * 7)).block, (ad.add (i * 7)).off + 2, none⟩ = some (.string xs) ∧ w'.cell? ⟨(ad.add (i * 7)).block, (ad.add (i * 7)).off + 3, none⟩ = some (.int .i64 o) ∧ w'.cell? ⟨(ad.add (i * 7)).block, (ad.add (i * 7)).off + 4, none⟩ = some (.slice A' gm ca') ∧ w'.cell? ⟨(ad.add (i * 7)).block, (ad.add (i * 7)).off + 5, none⟩ = some (.int .i64 l) ∧ w'.cell? ⟨(ad.add (i * 7)).block, (ad.add (i * 7)).off + 6, none⟩ = some (.int .i64 c)) ∧ w'.cell? (ad2.add (i * 7)) = some (.int .i64 k') ∧ w'.cell? ⟨(ad2.add (i * 7)).block, (ad2.add (i * 7)).off + 1, none⟩ = some (.int .i64 n') ∧ w'.cell? ⟨(ad2.add (i * 7)).block, (ad2.add (i * 7)).off + 2, none⟩ = some (.string ys) ∧ w'.cell? ⟨(ad2.add (i * 7)).block, (ad2.add (i * 7)).off + 3, none⟩ = some (.int .i64 o') ∧ w'.cell? ⟨(ad2.add (i * 7)).block, (ad2.add (i * 7)).off + 4, none⟩ = some (.slice B' gm' cb') ∧ w'.cell? ⟨(ad2.add (i * 7)).block, (ad2.add (i * 7)).off + 5, none⟩ = some (.int .i64 l') ∧ w'.cell? ⟨(ad2.add (i * 7)).block, (ad2.add (i * 7)).off + 6, none⟩ = some (.int .i64 c')) (first | with_reducible exact s0 | with_reducible exact s1)
          (first
            | (go_at_call 42
               with_reducible refine hq2.mono ?_
               rintro v w1 ⟨rfl, hw1⟩
               have hbw2 := Lib.hid (bth5 hd.out hw1)
               have s1 := And.intro (And.intro (cst5 hw1 s0.1.1) (And.intro (cst5 hw1 s0.1.2.1) (And.intro (cst5 hw1 s0.1.2.2.1) (And.intro (cst5 hw1 s0.1.2.2.2.1) (And.intro (cst5 hw1 s0.1.2.2.2.2.1) (And.intro (cst5 hw1 s0.1.2.2.2.2.2.1) (cst5 hw1 s0.1.2.2.2.2.2.2))))))) (And.intro (cst5 hw1 s0.2.1) (And.intro (cst5 hw1 s0.2.2.1) (And.intro (cst5 hw1 s0.2.2.2.1) (And.intro (cst5 hw1 s0.2.2.2.2.1) (And.intro (cst5 hw1 s0.2.2.2.2.2.1) (And.intro (cst5 hw1 s0.2.2.2.2.2.2.1) (cst5 hw1 s0.2.2.2.2.2.2.2)))))))))
        clear s0 s1
        cases sm with
        | false =>
          have hv := Lib.hid (HNO.out rfl)
          go_wp2_with fail
          go_ret
          exact ⟨by rw [hv.out]; rfl, hbw2.out⟩
        | true =>
          have hst2 := HST.out rfl
          go_wp2_with fail
          exact ⟨⟨i + 1, by omega, by go_num, hst2, hbw2⟩, by simp [intOf]; omega⟩
      · obtain rfl : i = m := by omega
        have hlt' : ¬ (i : Int) < i := by omega
        have hv : Hid (b = true) := by
          show b = _
          rw [HB.out]
          exact smx_yes HL.out fun j a b hj => hst.out j a b (by rw [HM.out]; exact hj)
        clear HB hst
        go_wp2_with fail
        go_ret
        exact ⟨by rw [hv.out]; rfl, hbw.out⟩
  · have hv : Hid (b = false) := by show b = _; rw [HB.out]; exact smx_nolen hl
    have e1 : ((r.length : Int) == s.length) = false := by simp; omega
    have e2 : ¬ (r.length : Int) = s.length := by omega
    clear hb hx hy hr hlen hS HB
    generalize r.length = m at *
    generalize s.length = m' at *
    go_enter Tryd.func82, Tryd.ntmps82
    go_wp2_with fail
    go_ret
    exact ⟨by rw [hv.out]; rfl, Below.refl _ _⟩
theorem refSameX (N : Nat) : N ≤ 4611686018427387904 → SameX1 N ∧ SameXs N := by
  induction N using Nat.strongRecOn with
  | ind N ih =>
    intro hN
    have h1 := refSameX1 N hN fun M hM => (ih M hM (by omega)).2
    exact ⟨h1, refSameXs N h1⟩
end Go.Proofs.YtkmioieanopafaaDoor
