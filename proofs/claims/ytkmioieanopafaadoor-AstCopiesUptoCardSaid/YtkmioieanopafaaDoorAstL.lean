/- Programs that are the same: the reference of layer 6. -/
import Derived.Test.YtkmioieanopafaaDoorAstJ
import Derived.Test.YtkmioieanopafaaDoorAstK
namespace Go.Proofs.YtkmioieanopafaaDoor
open Go.RowKit

/-- Are two declarations the same, positions aside? -/
def smd1 (a b : DV) : Bool := a.k == b.k && (a.x == b.x && (a.lo == b.lo && (a.hi == b.hi && (a.sz == b.sz && (a.ps == b.ps && smy a.body b.body)))))
def smd : List DV → List DV → Bool
  | [], [] => true
  | a :: r, b :: s => smd1 a b && smd r s
  | [], _ :: _ => false
  | _ :: _, [] => false
theorem smd_len : ∀ {r s : List DV}, smd r s = true → r.length = s.length
  | [], [], _ => rfl
  | a :: r, b :: s, h => by
    simp only [smd, Bool.and_eq_true] at h
    simp [smd_len h.2]
  | [], b :: s, h => by simp [smd] at h
  | a :: r, [], h => by simp [smd] at h
theorem smd_at : ∀ {r s : List DV}, smd r s = true → ∀ {i : Nat} {a b : DV}, r[i]? = some a → s[i]? = some b → smd1 a b = true
  | [], _, _, i, a, b, ha, _ => by simp at ha
  | _ :: _, [], _, i, a, b, _, hb => by simp at hb
  | a :: r, b :: s, h, i, x, y, ha, hb => by
    simp only [smd, Bool.and_eq_true] at h
    cases i with
    | zero => simp at ha hb; rw [← ha, ← hb]; exact h.1
    | succ i => exact smd_at h.2 (i := i) (by simpa using ha) (by simpa using hb)
theorem smd_yes : ∀ {r s : List DV}, r.length = s.length → (∀ i a b, i < r.length → r[i]? = some a → s[i]? = some b → smd1 a b = true) → smd r s = true
  | [], [], _, _ => by simp [smd]
  | [], b :: s, h, _ => by simp at h
  | a :: r, [], h, _ => by simp at h
  | a :: r, b :: s, h, hh => by
    simp only [smd, Bool.and_eq_true]
    exact ⟨hh 0 a b (by simp) rfl rfl, smd_yes (by simpa using h) fun i x y hi hx hy => hh (i + 1) x y (by simpa using hi) (by simpa using hx) (by simpa using hy)⟩
theorem smd_nolen {r s : List DV} (h : ¬ r.length = s.length) : smd r s = false := by
  rw [Bool.eq_false_iff]; exact fun e => h (smd_len e)
theorem smd_noat {r s : List DV} {i : Nat} {a b : DV} (ha : r[i]? = some a) (hb : s[i]? = some b) (h : smd1 a b = false) : smd r s = false := by
  rw [Bool.eq_false_iff]
  intro e
  rw [smd_at e ha hb] at h
  cases h
theorem smd_refl : ∀ ds : List DV, smd ds ds = true
  | [] => by simp [smd]
  | d :: r => by simp [smd, smd1, smd_refl r, smy_refl]

set_option maxHeartbeats 20000000 in
theorem refSame6 (r s : List DV) (mn mm : List SV) (hs : ssz mn + dbk r ≤ 4611686018427387904) (A : Option Addr) (ca : Nat) (B : Option Addr) (cb : Nat) (A' : Option Addr) (ca' : Nat) (B' : Option Addr) (cb' : Nat) (w : World) (hx : DR w A r) (hy : SR w B mn) (hx' : DR w A' s) (hy' : SR w B' mm) : Calls Tryd.prog 32 #[pval A r.length ca B mn.length cb, pval A' s.length ca' B' mm.length cb'] w fun v w' => v = .returned (.bool (smd r s && smy mn mm)) ∧ Below w.heap.size w w' := by
  obtain ⟨b, hb⟩ : ∃ b, b = (smd r s && smy mn mm) := ⟨_, rfl⟩
  rw [← hb]
  have HB := Lib.hid hb
  have hlen := Nat.le_trans (dsz_len r) (dsz_bk r)
  have HM := Lib.hid (fun W (h1 : SR W B mn) (h2 : SR W B' mm) => refSameS (ssz mn) mn mm (Nat.le_refl _) (by omega) B cb B' cb' W h1 h2)
  have hX := Lib.hid (And.intro (And.intro hx hx') (And.intro hy hy'))
  have hS := Lib.hid hs
  unfold pval
  have hK : Hid (Box ((w.alloc (.cells #[.slice A r.length ca, .slice B mn.length cb] 46)).alloc (.cells #[.slice A' s.length ca', .slice B' mm.length cb'] 46)) w.heap.size [.slice A r.length ca, .slice B mn.length cb] ∧ Box ((w.alloc (.cells #[.slice A r.length ca, .slice B mn.length cb] 46)).alloc (.cells #[.slice A' s.length ca', .slice B' mm.length cb'] 46)) (w.heap.size + 1) [.slice A' s.length ca', .slice B' mm.length cb'] ∧ Below w.heap.size w ((w.alloc (.cells #[.slice A r.length ca, .slice B mn.length cb] 46)).alloc (.cells #[.slice A' s.length ca', .slice B' mm.length cb'] 46))) := by
    refine ⟨(Box.new w [.slice A r.length ca, .slice B mn.length cb] _).step (bnew5 _ _), ?_, bth5 (bnew5 _ _) (bnew5 _ _)⟩
    have p2 := Box.new (w.alloc (.cells #[.slice A r.length ca, .slice B mn.length cb] 46)) [.slice A' s.length ca', .slice B' mm.length cb'] 46
    rw [show (w.alloc (.cells #[.slice A r.length ca, .slice B mn.length cb] 46)).heap.size = w.heap.size + 1 by simp] at p2
    exact p2
  obtain ⟨m1, hm1⟩ : ∃ m, m = mn.length := ⟨_, rfl⟩
  obtain ⟨m2, hm2⟩ : ∃ m, m = mm.length := ⟨_, rfl⟩
  rw [← hm1, ← hm2] at hK HM ⊢
  by_cases hl : r.length = s.length
  · have HL := Lib.hid hl
    rw [← hl] at hK ⊢
    obtain ⟨m, hm⟩ : ∃ m, m = r.length := ⟨_, rfl⟩
    have HMM := Lib.hid hm
    rw [← hm] at hlen hK ⊢
    have hml : m ≤ 4611686018427387904 := by omega
    clear hb hx hy hx' hy' hs hlen hl hm hm1 hm2
    go_enter Tryd.func32, Tryd.ntmps32
    go_wp2_with fail
    go_loopw [5] (fun v W => ∃ i : Nat, i ≤ m ∧ v = .int .i64 i ∧ Hid (∀ j a b, j < i → r[j]? = some a → s[j]? = some b → smd1 a b = true) ∧ Hid (Box W w.heap.size [.slice A m ca, .slice B m1 cb] ∧ Box W (w.heap.size + 1) [.slice A' m ca', .slice B' m2 cb'] ∧ Below w.heap.size w W)) (fun v _ => m - (intOf v).toNat)
    case atStart => exact ⟨0, by omega, rfl, fun j _ _ hj => absurd hj (by omega), hK⟩
    case round =>
      obtain ⟨i, hi, rfl, hst, hbw⟩ := hrel
      clear hK
      have b1 := hbw.out.1.two
      have b2 := hbw.out.2.1.two
      by_cases hlt : i < m
      · have hlt' : (i : Int) < m := by omega
        obtain ⟨ad, e, rfl, he, A1, c1, A2, c2, e0, e1, e2, e3, e4, e5, e6, e7, e8, hx1, hx2⟩ := (hX.out.1.1.step hbw.out.2.2).el (i := i) (by rw [← HMM.out]; exact hlt)
        obtain ⟨ad2, f, rfl, hf, B1, d1, B2, d2, f0, f1, f2, f3, f4, f5, f6, f7, f8, hy1, hy2⟩ := (hX.out.1.2.step hbw.out.2.2).el (i := i) (by rw [← HL.out, ← HMM.out]; exact hlt)
        have hz := dbk_get he
        have hp := pbk_len e.ps
        have hsz := ssz_bk e.body
        have hzz : dbk1 e = 1 + e.x.length + pbk e.ps + sbk e.body := rfl
        have hqt := Lib.hid (fun W (h1 : RowS W A1 e.ps.length e.ps) (h2 : RowS W B1 f.ps.length f.ps) => refSameT (c := c1) (c' := d1) h1 h2 (by have := hS.out; omega))
        have hqu := Lib.hid (fun W (h1 : SR W A2 e.body) (h2 : SR W B2 f.body) => refSameS (ssz e.body) e.body f.body (Nat.le_refl _) (by have := hS.out; omega) A2 c2 B2 d2 W h1 h2)
        have HE := Lib.hid (And.intro he hf)
        have s0 := And.intro (And.intro b1.1 b2.1) (And.intro (And.intro e0 (And.intro e1 (And.intro e2 (And.intro e3 (And.intro e4 (And.intro e5 (And.intro e6 (And.intro e7 e8)))))))) (And.intro f0 (And.intro f1 (And.intro f2 (And.intro f3 (And.intro f4 (And.intro f5 (And.intro f6 (And.intro f7 f8)))))))))
        have HST : Hid (smd1 e f = true → Hid (∀ j a b, j < i + 1 → r[j]? = some a → s[j]? = some b → smd1 a b = true)) := fun hr j a b hj ha hb => by
          rcases Nat.lt_or_ge j i with h | h
          · exact hst.out j a b h ha hb
          · obtain rfl : j = i := by omega
            have t1 : e = a := Option.some.inj (HE.out.1.symm.trans ha)
            have t2 : f = b := Option.some.inj (HE.out.2.symm.trans hb)
            rw [← t1, ← t2]; exact hr
        have HNO : Hid (smd1 e f = false → b = false) := fun hr => by rw [HB.out, smd_noat HE.out.1 HE.out.2 hr]; rfl
        have HXY := Lib.hid (And.intro (And.intro hx1 hx2) (And.intro hy1 hy2))
        have HE1 : Hid (smd1 e f = (e.k == f.k && (e.x == f.x && (e.lo == f.lo && (e.hi == f.hi && (e.sz == f.sz && (e.ps == f.ps && smy e.body f.body))))))) := rfl
        clear e0 e1 e2 e3 e4 e5 e6 e7 e8 f0 f1 f2 f3 f4 f5 f6 f7 f8 he hf hx1 hx2 hy1 hy2 hz hst HE HB b1 b2 hp hsz hzz
        generalize smd1 e f = sm at *
        cases e with
        | mk k x lo hh sz ps es l c =>
        cases f with
        | mk k' x' lo' hh' sz' ps' es' l' c' =>
        simp only at *
        generalize (ps == ps') = bt at *
        generalize smy es es' = bu at *
        go_wp2_with fail
        have n1 := World.new_ne wr _ s0.2.1.1
        have n2 := World.new_ne wr _ s0.2.2.1
        have n3 := World.new_ne wr _ s0.1.1
        have n4 := World.new_ne wr _ s0.1.2
        go_region_held3 (fun w' => (w'.cell? ⟨w.heap.size, 0, none⟩ = some (.slice (some ad) m ca) ∧ w'.cell? ⟨w.heap.size + 1, 0, none⟩ = some (.slice (some ad2) m ca')) ∧ (w'.cell? (ad.add (i * 9)) = some (.int .i64 k) ∧ w'.cell? ⟨(ad.add (i * 9)).block, (ad.add (i * 9)).off + 1, none⟩ = some (.string ⟨x.toArray⟩) ∧ w'.cell? ⟨(ad.add (i * 9)).block, (ad.add (i * 9)).off + 2, none⟩ = some (.int .i64 lo) ∧ w'.cell? ⟨(ad.add (i * 9)).block, (ad.add (i * 9)).off + 3, none⟩ = some (.int .i64 hh) ∧ w'.cell? ⟨(ad.add (i * 9)).block, (ad.add (i * 9)).off + 4, none⟩ = some (.int .i64 sz) ∧ w'.cell? ⟨(ad.add (i * 9)).block, (ad.add (i * 9)).off + 5, none⟩ = some (.slice A1 ps.length c1) ∧ w'.cell? ⟨(ad.add (i * 9)).block, (ad.add (i * 9)).off + 6, none⟩ = some (.slice A2 es.length c2) ∧ w'.cell? ⟨(ad.add (i * 9)).block, (ad.add (i * 9)).off + 7, none⟩ = some (.int .i64 l) ∧ w'.cell? ⟨(ad.add (i * 9)).block, (ad.add (i * 9)).off + 8, none⟩ = some (.int .i64 c)) ∧ w'.cell? (ad2.add (i * 9)) = some (.int .i64 k') ∧ w'.cell? ⟨(ad2.add (i * 9)).block, (ad2.add (i * 9)).off + 1, none⟩ = some (.string ⟨x'.toArray⟩) ∧ w'.cell? ⟨(ad2.add (i * 9)).block, (ad2.add (i * 9)).off + 2, none⟩ = some (.int .i64 lo') ∧ w'.cell? ⟨(ad2.add (i * 9)).block, (ad2.add (i * 9)).off + 3, none⟩ = some (.int .i64 hh') ∧ w'.cell? ⟨(ad2.add (i * 9)).block, (ad2.add (i * 9)).off + 4, none⟩ = some (.int .i64 sz') ∧ w'.cell? ⟨(ad2.add (i * 9)).block, (ad2.add (i * 9)).off + 5, none⟩ = some (.slice B1 ps'.length d1) ∧ w'.cell? ⟨(ad2.add (i * 9)).block, (ad2.add (i * 9)).off + 6, none⟩ = some (.slice B2 es'.length d2) ∧ w'.cell? ⟨(ad2.add (i * 9)).block, (ad2.add (i * 9)).off + 7, none⟩ = some (.int .i64 l') ∧ w'.cell? ⟨(ad2.add (i * 9)).block, (ad2.add (i * 9)).off + 8, none⟩ = some (.int .i64 c')) (first | with_reducible exact s0 | go_keep)
          (fail)
        · have p1 := ((Box.new wr [.int .i64 k, .string ⟨x.toArray⟩, .int .i64 lo, .int .i64 hh, .int .i64 sz, .slice A1 ps.length c1, .slice A2 es.length c2, .int .i64 l, .int .i64 c] 89).step (bnew5 _ (.cells #[.int .i64 k', .string ⟨x'.toArray⟩, .int .i64 lo', .int .i64 hh', .int .i64 sz', .slice B1 ps'.length d1, .slice B2 es'.length d2, .int .i64 l', .int .i64 c'] 89))).drew
          have p2 := (Box.new (wr.alloc (.cells #[.int .i64 k, .string ⟨x.toArray⟩, .int .i64 lo, .int .i64 hh, .int .i64 sz, .slice A1 ps.length c1, .slice A2 es.length c2, .int .i64 l, .int .i64 c] 89)) [.int .i64 k', .string ⟨x'.toArray⟩, .int .i64 lo', .int .i64 hh', .int .i64 sz', .slice B1 ps'.length d1, .slice B2 es'.length d2, .int .i64 l', .int .i64 c'] 89).drew
          rw [show (wr.alloc (.cells #[.int .i64 k, .string ⟨x.toArray⟩, .int .i64 lo, .int .i64 hh, .int .i64 sz, .slice A1 ps.length c1, .slice A2 es.length c2, .int .i64 l, .int .i64 c] 89)).heap.size = wr.heap.size + 1 by simp] at p2
          have hbV := (bth5 (bnew5 wr (.cells #[.int .i64 k, .string ⟨x.toArray⟩, .int .i64 lo, .int .i64 hh, .int .i64 sz, .slice A1 ps.length c1, .slice A2 es.length c2, .int .i64 l, .int .i64 c] 89)) (bnew5 _ (.cells #[.int .i64 k', .string ⟨x'.toArray⟩, .int .i64 lo', .int .i64 hh', .int .i64 sz', .slice B1 ps'.length d1, .slice B2 es'.length d2, .int .i64 l', .int .i64 c'] 89))).drew
          have hK : Hid (Box ((wr.alloc (.cells #[.int .i64 k, .string ⟨x.toArray⟩, .int .i64 lo, .int .i64 hh, .int .i64 sz, .slice A1 ps.length c1, .slice A2 es.length c2, .int .i64 l, .int .i64 c] 89)).alloc (.cells #[.int .i64 k', .string ⟨x'.toArray⟩, .int .i64 lo', .int .i64 hh', .int .i64 sz', .slice B1 ps'.length d1, .slice B2 es'.length d2, .int .i64 l', .int .i64 c'] 89)).drew wr.heap.size [.int .i64 k, .string ⟨x.toArray⟩, .int .i64 lo, .int .i64 hh, .int .i64 sz, .slice A1 ps.length c1, .slice A2 es.length c2, .int .i64 l, .int .i64 c] ∧ Box ((wr.alloc (.cells #[.int .i64 k, .string ⟨x.toArray⟩, .int .i64 lo, .int .i64 hh, .int .i64 sz, .slice A1 ps.length c1, .slice A2 es.length c2, .int .i64 l, .int .i64 c] 89)).alloc (.cells #[.int .i64 k', .string ⟨x'.toArray⟩, .int .i64 lo', .int .i64 hh', .int .i64 sz', .slice B1 ps'.length d1, .slice B2 es'.length d2, .int .i64 l', .int .i64 c'] 89)).drew (wr.heap.size + 1) [.int .i64 k', .string ⟨x'.toArray⟩, .int .i64 lo', .int .i64 hh', .int .i64 sz', .slice B1 ps'.length d1, .slice B2 es'.length d2, .int .i64 l', .int .i64 c'] ∧ Box ((wr.alloc (.cells #[.int .i64 k, .string ⟨x.toArray⟩, .int .i64 lo, .int .i64 hh, .int .i64 sz, .slice A1 ps.length c1, .slice A2 es.length c2, .int .i64 l, .int .i64 c] 89)).alloc (.cells #[.int .i64 k', .string ⟨x'.toArray⟩, .int .i64 lo', .int .i64 hh', .int .i64 sz', .slice B1 ps'.length d1, .slice B2 es'.length d2, .int .i64 l', .int .i64 c'] 89)).drew w.heap.size [.slice (some ad) m ca, .slice B m1 cb] ∧ Box ((wr.alloc (.cells #[.int .i64 k, .string ⟨x.toArray⟩, .int .i64 lo, .int .i64 hh, .int .i64 sz, .slice A1 ps.length c1, .slice A2 es.length c2, .int .i64 l, .int .i64 c] 89)).alloc (.cells #[.int .i64 k', .string ⟨x'.toArray⟩, .int .i64 lo', .int .i64 hh', .int .i64 sz', .slice B1 ps'.length d1, .slice B2 es'.length d2, .int .i64 l', .int .i64 c'] 89)).drew (w.heap.size + 1) [.slice (some ad2) m ca', .slice B' m2 cb'] ∧ Below w.heap.size w ((wr.alloc (.cells #[.int .i64 k, .string ⟨x.toArray⟩, .int .i64 lo, .int .i64 hh, .int .i64 sz, .slice A1 ps.length c1, .slice A2 es.length c2, .int .i64 l, .int .i64 c] 89)).alloc (.cells #[.int .i64 k', .string ⟨x'.toArray⟩, .int .i64 lo', .int .i64 hh', .int .i64 sz', .slice B1 ps'.length d1, .slice B2 es'.length d2, .int .i64 l', .int .i64 c'] 89)).drew ∧ Below wr.heap.size wr ((wr.alloc (.cells #[.int .i64 k, .string ⟨x.toArray⟩, .int .i64 lo, .int .i64 hh, .int .i64 sz, .slice A1 ps.length c1, .slice A2 es.length c2, .int .i64 l, .int .i64 c] 89)).alloc (.cells #[.int .i64 k', .string ⟨x'.toArray⟩, .int .i64 lo', .int .i64 hh', .int .i64 sz', .slice B1 ps'.length d1, .slice B2 es'.length d2, .int .i64 l', .int .i64 c'] 89)).drew) := ⟨p1, p2, hbw.out.1.step hbV, hbw.out.2.1.step hbV, bth5 hbw.out.2.2 hbV, hbV⟩
          clear p1 p2 hbV s0 n1 n2 n3 n4 hbw
          generalize ((wr.alloc (.cells #[.int .i64 k, .string ⟨x.toArray⟩, .int .i64 lo, .int .i64 hh, .int .i64 sz, .slice A1 ps.length c1, .slice A2 es.length c2, .int .i64 l, .int .i64 c] 89)).alloc (.cells #[.int .i64 k', .string ⟨x'.toArray⟩, .int .i64 lo', .int .i64 hh', .int .i64 sz', .slice B1 ps'.length d1, .slice B2 es'.length d2, .int .i64 l', .int .i64 c'] 89)).drew = V at *
          generalize wr.heap.size + 1 = g2 at *
          have sA := hK.out.1.nine
          have sB := hK.out.2.1.nine
          by_cases hk : ¬ k = k'
          · have e2 : (k == k') = false := by simp [hk]
            have hE : Hid (sm = false) := by show sm = _; rw [HE1.out]; simp [hk]
            clear HE1
            have hv := Lib.hid (HNO.out hE.out)
            go_wp2_with fail
            go_ret
            exact ⟨by rw [hv.out]; rfl, hK.out.2.2.2.2.1⟩
          replace hk := Classical.not_not.1 hk
          subst hk
          by_cases hx : ¬ x = x'
          · have e2 := ne_texts6 hx
            have hE : Hid (sm = false) := by show sm = _; rw [HE1.out]; simp [hx]
            clear HE1
            generalize (⟨x.toArray⟩ : ByteArray) = xs at *
            generalize (⟨x'.toArray⟩ : ByteArray) = ys at *
            have hv := Lib.hid (HNO.out hE.out)
            go_wp2_with fail
            go_ret
            exact ⟨by rw [hv.out]; rfl, hK.out.2.2.2.2.1⟩
          replace hx := Classical.not_not.1 hx
          subst hx
          by_cases hlo : ¬ lo = lo'
          · have e2 : (lo == lo') = false := by simp [hlo]
            have hE : Hid (sm = false) := by show sm = _; rw [HE1.out]; simp [hlo]
            clear HE1
            generalize (⟨x.toArray⟩ : ByteArray) = xs at *
            have ex : (xs.toList == xs.toList) = true := by simp
            have hv := Lib.hid (HNO.out hE.out)
            go_wp2_with fail
            go_ret
            exact ⟨by rw [hv.out]; rfl, hK.out.2.2.2.2.1⟩
          replace hlo := Classical.not_not.1 hlo
          subst hlo
          by_cases hhh : ¬ hh = hh'
          · have e2 : (hh == hh') = false := by simp [hhh]
            have hE : Hid (sm = false) := by show sm = _; rw [HE1.out]; simp [hhh]
            clear HE1
            generalize (⟨x.toArray⟩ : ByteArray) = xs at *
            have ex : (xs.toList == xs.toList) = true := by simp
            have hv := Lib.hid (HNO.out hE.out)
            go_wp2_with fail
            go_ret
            exact ⟨by rw [hv.out]; rfl, hK.out.2.2.2.2.1⟩
          replace hhh := Classical.not_not.1 hhh
          subst hhh
          by_cases hsz : ¬ sz = sz'
          · have e2 : (sz == sz') = false := by simp [hsz]
            have hE : Hid (sm = false) := by show sm = _; rw [HE1.out]; simp [hsz]
            clear HE1
            generalize (⟨x.toArray⟩ : ByteArray) = xs at *
            have ex : (xs.toList == xs.toList) = true := by simp
            have hv := Lib.hid (HNO.out hE.out)
            go_wp2_with fail
            go_ret
            exact ⟨by rw [hv.out]; rfl, hK.out.2.2.2.2.1⟩
          replace hsz := Classical.not_not.1 hsz
          subst hsz
          generalize (⟨x.toArray⟩ : ByteArray) = xs at *
          have ex : (xs.toList == xs.toList) = true := by simp
          have hE : Hid (sm = (bt && bu)) := by show sm = _; rw [HE1.out]; simp
          clear HE1
          have qt := hqt.out V (HXY.out.1.1.below hK.out.2.2.2.2.2) (HXY.out.2.1.below hK.out.2.2.2.2.2)
          go_wp2_with fail
          refine qt.mono ?_
          rintro v w1 ⟨rfl, hw1⟩
          have hK1 := Lib.hid (And.intro (hK.out.1.step hw1) (And.intro (hK.out.2.1.step hw1) (And.intro (hK.out.2.2.1.step hw1) (And.intro (hK.out.2.2.2.1.step hw1) (And.intro (bth5 hK.out.2.2.2.2.1 hw1) (bth5 hK.out.2.2.2.2.2 hw1))))))
          clear qt sA sB hK
          have sA := hK1.out.1.nine
          have sB := hK1.out.2.1.nine
          have qu := hqu.out w1 (HXY.out.1.2.step hK1.out.2.2.2.2.2) (HXY.out.2.2.step hK1.out.2.2.2.2.2)
          cases bt with
          | false =>
            have hv := Lib.hid (HNO.out hE.out)
            go_wp2_with fail
            go_ret
            exact ⟨by rw [hv.out]; rfl, hK1.out.2.2.2.2.1⟩
          | true =>
            go_wp2_with fail
            refine qu.mono ?_
            rintro v w2 ⟨rfl, hw2⟩
            have hK2 := Lib.hid (And.intro (hK1.out.2.2.1.step hw2) (And.intro (hK1.out.2.2.2.1.step hw2) (bth5 hK1.out.2.2.2.2.1 hw2)))
            cases bu with
            | false =>
              have hv := Lib.hid (HNO.out hE.out)
              go_wp2_with fail
              go_ret
              exact ⟨by rw [hv.out]; rfl, hK2.out.2.2⟩
            | true =>
              have hst2 := HST.out hE.out
              go_wp2_with fail
              exact ⟨⟨i + 1, by omega, by go_num, hst2, hK2⟩, by simp [intOf]; omega⟩
        · have p1 := ((Box.new wr [.int .i64 k', .string ⟨x'.toArray⟩, .int .i64 lo', .int .i64 hh', .int .i64 sz', .slice B1 ps'.length d1, .slice B2 es'.length d2, .int .i64 l', .int .i64 c'] 89).step (bnew5 _ (.cells #[.int .i64 k, .string ⟨x.toArray⟩, .int .i64 lo, .int .i64 hh, .int .i64 sz, .slice A1 ps.length c1, .slice A2 es.length c2, .int .i64 l, .int .i64 c] 89))).drew
          have p2 := (Box.new (wr.alloc (.cells #[.int .i64 k', .string ⟨x'.toArray⟩, .int .i64 lo', .int .i64 hh', .int .i64 sz', .slice B1 ps'.length d1, .slice B2 es'.length d2, .int .i64 l', .int .i64 c'] 89)) [.int .i64 k, .string ⟨x.toArray⟩, .int .i64 lo, .int .i64 hh, .int .i64 sz, .slice A1 ps.length c1, .slice A2 es.length c2, .int .i64 l, .int .i64 c] 89).drew
          rw [show (wr.alloc (.cells #[.int .i64 k', .string ⟨x'.toArray⟩, .int .i64 lo', .int .i64 hh', .int .i64 sz', .slice B1 ps'.length d1, .slice B2 es'.length d2, .int .i64 l', .int .i64 c'] 89)).heap.size = wr.heap.size + 1 by simp] at p2
          have hbV := (bth5 (bnew5 wr (.cells #[.int .i64 k', .string ⟨x'.toArray⟩, .int .i64 lo', .int .i64 hh', .int .i64 sz', .slice B1 ps'.length d1, .slice B2 es'.length d2, .int .i64 l', .int .i64 c'] 89)) (bnew5 _ (.cells #[.int .i64 k, .string ⟨x.toArray⟩, .int .i64 lo, .int .i64 hh, .int .i64 sz, .slice A1 ps.length c1, .slice A2 es.length c2, .int .i64 l, .int .i64 c] 89))).drew
          have hK : Hid (Box ((wr.alloc (.cells #[.int .i64 k', .string ⟨x'.toArray⟩, .int .i64 lo', .int .i64 hh', .int .i64 sz', .slice B1 ps'.length d1, .slice B2 es'.length d2, .int .i64 l', .int .i64 c'] 89)).alloc (.cells #[.int .i64 k, .string ⟨x.toArray⟩, .int .i64 lo, .int .i64 hh, .int .i64 sz, .slice A1 ps.length c1, .slice A2 es.length c2, .int .i64 l, .int .i64 c] 89)).drew (wr.heap.size + 1) [.int .i64 k, .string ⟨x.toArray⟩, .int .i64 lo, .int .i64 hh, .int .i64 sz, .slice A1 ps.length c1, .slice A2 es.length c2, .int .i64 l, .int .i64 c] ∧ Box ((wr.alloc (.cells #[.int .i64 k', .string ⟨x'.toArray⟩, .int .i64 lo', .int .i64 hh', .int .i64 sz', .slice B1 ps'.length d1, .slice B2 es'.length d2, .int .i64 l', .int .i64 c'] 89)).alloc (.cells #[.int .i64 k, .string ⟨x.toArray⟩, .int .i64 lo, .int .i64 hh, .int .i64 sz, .slice A1 ps.length c1, .slice A2 es.length c2, .int .i64 l, .int .i64 c] 89)).drew wr.heap.size [.int .i64 k', .string ⟨x'.toArray⟩, .int .i64 lo', .int .i64 hh', .int .i64 sz', .slice B1 ps'.length d1, .slice B2 es'.length d2, .int .i64 l', .int .i64 c'] ∧ Box ((wr.alloc (.cells #[.int .i64 k', .string ⟨x'.toArray⟩, .int .i64 lo', .int .i64 hh', .int .i64 sz', .slice B1 ps'.length d1, .slice B2 es'.length d2, .int .i64 l', .int .i64 c'] 89)).alloc (.cells #[.int .i64 k, .string ⟨x.toArray⟩, .int .i64 lo, .int .i64 hh, .int .i64 sz, .slice A1 ps.length c1, .slice A2 es.length c2, .int .i64 l, .int .i64 c] 89)).drew w.heap.size [.slice (some ad) m ca, .slice B m1 cb] ∧ Box ((wr.alloc (.cells #[.int .i64 k', .string ⟨x'.toArray⟩, .int .i64 lo', .int .i64 hh', .int .i64 sz', .slice B1 ps'.length d1, .slice B2 es'.length d2, .int .i64 l', .int .i64 c'] 89)).alloc (.cells #[.int .i64 k, .string ⟨x.toArray⟩, .int .i64 lo, .int .i64 hh, .int .i64 sz, .slice A1 ps.length c1, .slice A2 es.length c2, .int .i64 l, .int .i64 c] 89)).drew (w.heap.size + 1) [.slice (some ad2) m ca', .slice B' m2 cb'] ∧ Below w.heap.size w ((wr.alloc (.cells #[.int .i64 k', .string ⟨x'.toArray⟩, .int .i64 lo', .int .i64 hh', .int .i64 sz', .slice B1 ps'.length d1, .slice B2 es'.length d2, .int .i64 l', .int .i64 c'] 89)).alloc (.cells #[.int .i64 k, .string ⟨x.toArray⟩, .int .i64 lo, .int .i64 hh, .int .i64 sz, .slice A1 ps.length c1, .slice A2 es.length c2, .int .i64 l, .int .i64 c] 89)).drew ∧ Below wr.heap.size wr ((wr.alloc (.cells #[.int .i64 k', .string ⟨x'.toArray⟩, .int .i64 lo', .int .i64 hh', .int .i64 sz', .slice B1 ps'.length d1, .slice B2 es'.length d2, .int .i64 l', .int .i64 c'] 89)).alloc (.cells #[.int .i64 k, .string ⟨x.toArray⟩, .int .i64 lo, .int .i64 hh, .int .i64 sz, .slice A1 ps.length c1, .slice A2 es.length c2, .int .i64 l, .int .i64 c] 89)).drew) := ⟨p2, p1, hbw.out.1.step hbV, hbw.out.2.1.step hbV, bth5 hbw.out.2.2 hbV, hbV⟩
          clear p1 p2 hbV s0 n1 n2 n3 n4 hbw
          generalize ((wr.alloc (.cells #[.int .i64 k', .string ⟨x'.toArray⟩, .int .i64 lo', .int .i64 hh', .int .i64 sz', .slice B1 ps'.length d1, .slice B2 es'.length d2, .int .i64 l', .int .i64 c'] 89)).alloc (.cells #[.int .i64 k, .string ⟨x.toArray⟩, .int .i64 lo, .int .i64 hh, .int .i64 sz, .slice A1 ps.length c1, .slice A2 es.length c2, .int .i64 l, .int .i64 c] 89)).drew = V at *
          generalize wr.heap.size + 1 = g2 at *
          have sA := hK.out.1.nine
          have sB := hK.out.2.1.nine
          by_cases hk : ¬ k = k'
          · have e2 : (k == k') = false := by simp [hk]
            have hE : Hid (sm = false) := by show sm = _; rw [HE1.out]; simp [hk]
            clear HE1
            have hv := Lib.hid (HNO.out hE.out)
            go_wp2_with fail
            go_ret
            exact ⟨by rw [hv.out]; rfl, hK.out.2.2.2.2.1⟩
          replace hk := Classical.not_not.1 hk
          subst hk
          by_cases hx : ¬ x = x'
          · have e2 := ne_texts6 hx
            have hE : Hid (sm = false) := by show sm = _; rw [HE1.out]; simp [hx]
            clear HE1
            generalize (⟨x.toArray⟩ : ByteArray) = xs at *
            generalize (⟨x'.toArray⟩ : ByteArray) = ys at *
            have hv := Lib.hid (HNO.out hE.out)
            go_wp2_with fail
            go_ret
            exact ⟨by rw [hv.out]; rfl, hK.out.2.2.2.2.1⟩
          replace hx := Classical.not_not.1 hx
          subst hx
          by_cases hlo : ¬ lo = lo'
          · have e2 : (lo == lo') = false := by simp [hlo]
            have hE : Hid (sm = false) := by show sm = _; rw [HE1.out]; simp [hlo]
            clear HE1
            generalize (⟨x.toArray⟩ : ByteArray) = xs at *
            have ex : (xs.toList == xs.toList) = true := by simp
            have hv := Lib.hid (HNO.out hE.out)
            go_wp2_with fail
            go_ret
            exact ⟨by rw [hv.out]; rfl, hK.out.2.2.2.2.1⟩
          replace hlo := Classical.not_not.1 hlo
          subst hlo
          by_cases hhh : ¬ hh = hh'
          · have e2 : (hh == hh') = false := by simp [hhh]
            have hE : Hid (sm = false) := by show sm = _; rw [HE1.out]; simp [hhh]
            clear HE1
            generalize (⟨x.toArray⟩ : ByteArray) = xs at *
            have ex : (xs.toList == xs.toList) = true := by simp
            have hv := Lib.hid (HNO.out hE.out)
            go_wp2_with fail
            go_ret
            exact ⟨by rw [hv.out]; rfl, hK.out.2.2.2.2.1⟩
          replace hhh := Classical.not_not.1 hhh
          subst hhh
          by_cases hsz : ¬ sz = sz'
          · have e2 : (sz == sz') = false := by simp [hsz]
            have hE : Hid (sm = false) := by show sm = _; rw [HE1.out]; simp [hsz]
            clear HE1
            generalize (⟨x.toArray⟩ : ByteArray) = xs at *
            have ex : (xs.toList == xs.toList) = true := by simp
            have hv := Lib.hid (HNO.out hE.out)
            go_wp2_with fail
            go_ret
            exact ⟨by rw [hv.out]; rfl, hK.out.2.2.2.2.1⟩
          replace hsz := Classical.not_not.1 hsz
          subst hsz
          generalize (⟨x.toArray⟩ : ByteArray) = xs at *
          have ex : (xs.toList == xs.toList) = true := by simp
          have hE : Hid (sm = (bt && bu)) := by show sm = _; rw [HE1.out]; simp
          clear HE1
          have qt := hqt.out V (HXY.out.1.1.below hK.out.2.2.2.2.2) (HXY.out.2.1.below hK.out.2.2.2.2.2)
          go_wp2_with fail
          refine qt.mono ?_
          rintro v w1 ⟨rfl, hw1⟩
          have hK1 := Lib.hid (And.intro (hK.out.1.step hw1) (And.intro (hK.out.2.1.step hw1) (And.intro (hK.out.2.2.1.step hw1) (And.intro (hK.out.2.2.2.1.step hw1) (And.intro (bth5 hK.out.2.2.2.2.1 hw1) (bth5 hK.out.2.2.2.2.2 hw1))))))
          clear qt sA sB hK
          have sA := hK1.out.1.nine
          have sB := hK1.out.2.1.nine
          have qu := hqu.out w1 (HXY.out.1.2.step hK1.out.2.2.2.2.2) (HXY.out.2.2.step hK1.out.2.2.2.2.2)
          cases bt with
          | false =>
            have hv := Lib.hid (HNO.out hE.out)
            go_wp2_with fail
            go_ret
            exact ⟨by rw [hv.out]; rfl, hK1.out.2.2.2.2.1⟩
          | true =>
            go_wp2_with fail
            refine qu.mono ?_
            rintro v w2 ⟨rfl, hw2⟩
            have hK2 := Lib.hid (And.intro (hK1.out.2.2.1.step hw2) (And.intro (hK1.out.2.2.2.1.step hw2) (bth5 hK1.out.2.2.2.2.1 hw2)))
            cases bu with
            | false =>
              have hv := Lib.hid (HNO.out hE.out)
              go_wp2_with fail
              go_ret
              exact ⟨by rw [hv.out]; rfl, hK2.out.2.2⟩
            | true =>
              have hst2 := HST.out hE.out
              go_wp2_with fail
              exact ⟨⟨i + 1, by omega, by go_num, hst2, hK2⟩, by simp [intOf]; omega⟩
      · obtain rfl : i = m := by omega
        have hlt' : ¬ (i : Int) < i := by omega
        have hv : Hid (b = smy mn mm) := by
          show b = _
          rw [HB.out, smd_yes HL.out fun j a b hj => hst.out j a b (by rw [HMM.out]; exact hj)]
          rfl
        have q := HM.out wr (hX.out.2.1.step hbw.out.2.2) (hX.out.2.2.step hbw.out.2.2)
        clear HB hst
        go_wp2_with fail
        refine q.mono ?_
        rintro v w1 ⟨rfl, hw1⟩
        go_wp2_with fail
        go_ret
        exact ⟨by rw [hv.out]; rfl, bth5 hbw.out.2.2 hw1⟩
  · have hv : Hid (b = false) := by show b = _; rw [HB.out, smd_nolen hl]; rfl
    have e1 : ((r.length : Int) == s.length) = false := by simp; omega
    have e2 : ¬ (r.length : Int) = s.length := by omega
    have hbk := Lib.hid hK.out.2.2
    clear hb hx hy hx' hy' hs hlen HB hX hS hK hl hm1 hm2
    generalize r.length = n1 at *
    generalize s.length = n2 at *
    go_enter Tryd.func32, Tryd.ntmps32
    go_wp2_with fail
    go_ret
    exact ⟨by rw [hv.out]; rfl, hbk.out⟩
end Go.Proofs.YtkmioieanopafaaDoor
