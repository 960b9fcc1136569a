/- Statements that are the same: the reference of layer 6. -/
import Derived.Test.YtkmioieanopafaaDoorAstG
namespace Go.Proofs.YtkmioieanopafaaDoor
open Go.RowKit

mutual
/-- Are two the same, positions aside? -/
def smy1 : SV → SV → Bool
  | .mk k x es ts us _ _, .mk k' x' es' ts' us' _ _ => k == k' && (x == x' && (smx es es' && (smy ts ts' && smy us us')))
def smy : List SV → List SV → Bool
  | [], [] => true
  | a :: r, b :: s => smy1 a b && smy r s
  | [], _ :: _ => false
  | _ :: _, [] => false
end
theorem smy1_eq (a b : SV) : smy1 a b = (a.k == b.k && (a.x == b.x && (smx a.es b.es && (smy a.ts b.ts && smy a.us b.us)))) := by
  cases a; cases b; simp [smy1, SV.k, SV.x, SV.es, SV.ts, SV.us]
theorem smy_len : ∀ {r s : List SV}, smy r s = true → r.length = s.length
  | [], [], _ => rfl
  | a :: r, b :: s, h => by
    simp only [smy, Bool.and_eq_true] at h
    simp [smy_len h.2]
  | [], b :: s, h => by simp [smy] at h
  | a :: r, [], h => by simp [smy] at h
theorem smy_at : ∀ {r s : List SV}, smy r s = true → ∀ {i : Nat} {a b : SV}, r[i]? = some a → s[i]? = some b → smy1 a b = true
  | [], _, _, i, a, b, ha, _ => by simp at ha
  | _ :: _, [], _, i, a, b, _, hb => by simp at hb
  | a :: r, b :: s, h, i, x, y, ha, hb => by
    simp only [smy, Bool.and_eq_true] at h
    cases i with
    | zero => simp at ha hb; rw [← ha, ← hb]; exact h.1
    | succ i => exact smy_at h.2 (i := i) (by simpa using ha) (by simpa using hb)
theorem smy_yes : ∀ {r s : List SV}, r.length = s.length → (∀ i a b, i < r.length → r[i]? = some a → s[i]? = some b → smy1 a b = true) → smy r s = true
  | [], [], _, _ => by simp [smy]
  | [], b :: s, h, _ => by simp at h
  | a :: r, [], h, _ => by simp at h
  | a :: r, b :: s, h, hh => by
    simp only [smy, Bool.and_eq_true]
    exact ⟨hh 0 a b (by simp) rfl rfl, smy_yes (by simpa using h) fun i x y hi hx hy => hh (i + 1) x y (by simpa using hi) (by simpa using hx) (by simpa using hy)⟩
theorem smy_nolen {r s : List SV} (h : ¬ r.length = s.length) : smy r s = false := by
  rw [Bool.eq_false_iff]; exact fun e => h (smy_len e)
theorem smy_noat {r s : List SV} {i : Nat} {a b : SV} (ha : r[i]? = some a) (hb : s[i]? = some b) (h : smy1 a b = false) : smy r s = false := by
  rw [Bool.eq_false_iff]
  intro e
  rw [smy_at e ha hb] at h
  cases h
mutual
theorem smy1_refl : ∀ e : SV, smy1 e e = true
  | .mk k x es ts us l c => by simp [smy1, smx_refl es, smy_refl ts, smy_refl us]
theorem smy_refl : ∀ es : List SV, smy es es = true
  | [] => by simp [smy]
  | e :: r => by simp [smy, smy1_refl e, smy_refl r]
end
def SameSB (N : Nat) : Prop := ∀ (r s : List SV), ssz r ≤ N → N ≤ 4611686018427387904 → ∀ (A : Option Addr) (ca : Nat) (B : Option Addr) (cb : Nat) (w : World), SR w A r → SR w B s → Calls Tryd.prog 73 #[.slice A r.length ca, .slice B s.length cb] w fun v w' => v = .returned (.bool (smy r s)) ∧ Below w.heap.size w w'
/-- What a statement's cells are. -/
def scells (e : SV) (A1 : Option Addr) (c1 : Nat) (A2 : Option Addr) (c2 : Nat) (A3 : Option Addr) (c3 : Nat) : List Value := [.int .i64 e.k, .string ⟨e.x.toArray⟩, .slice A1 e.es.length c1, .slice A2 e.ts.length c2, .slice A3 e.us.length c3, .int .i64 e.l, .int .i64 e.c]

set_option maxHeartbeats 8000000 in
theorem refSameSB (N : Nat) (hS : ∀ M, M < N → SameSB M) : SameSB N := by
  intro r s hr hN A ca B cb w hx hy
  obtain ⟨b, hb⟩ : ∃ b, b = smy r s := ⟨_, rfl⟩
  rw [← hb]
  have HB := Lib.hid hb
  have HS := Lib.hid hS
  have hX := Lib.hid (And.intro hx hy)
  have hG := Lib.hid hr
  have hlen := ssz_len r
  by_cases hl : r.length = s.length
  · rw [← hl]
    have HL := Lib.hid hl
    obtain ⟨m, hm⟩ : ∃ m, m = r.length := ⟨_, rfl⟩
    have HM := Lib.hid hm
    rw [← hm] at hlen ⊢
    have hml : m ≤ 4611686018427387904 := by omega
    clear hb hx hy hr hlen hS hl hm
    go_enter Tryd.func73, Tryd.ntmps73
    go_wp2_with fail
    go_loopw [5] (fun v W => ∃ i : Nat, i ≤ m ∧ v = .int .i64 i ∧ Hid (∀ j a b, j < i → r[j]? = some a → s[j]? = some b → smy1 a b = true) ∧ Hid (Below w.heap.size w W)) (fun v _ => m - (intOf v).toNat)
    case atStart => exact ⟨0, by omega, rfl, fun j _ _ hj => absurd hj (by omega), Below.refl _ _⟩
    case round =>
      obtain ⟨i, hi, rfl, hst, hbw⟩ := hrel
      by_cases hlt : i < m
      · have hlt' : (i : Int) < m := by omega
        have hd := Lib.hid hbw.out
        obtain ⟨ad, e, rfl, he, A1, c1, A2, c2, A3, c3, e0, e1, e2, e3, e4, e5, e6, hx1, hx2, hx3⟩ := (hX.out.1.step hd.out).el (i := i) (by rw [← HM.out]; exact hlt)
        obtain ⟨ad2, f, rfl, hf, B1, d1, B2, d2, B3, d3, f0, f1, f2, f3, f4, f5, f6, hy1, hy2, hy3⟩ := (hX.out.2.step hd.out).el (i := i) (by rw [← HL.out, ← HM.out]; exact hlt)
        have hz := ssz_get he
        have hz3 := ssz1_eq e
        have hqx := Lib.hid (fun W (h1 : XR W A1 e.es) (h2 : XR W B1 f.es) => (refSameX (xsz e.es) (by have := hG.out; omega)).2 e.es f.es (Nat.le_refl _) (by have := hG.out; omega) A1 c1 B1 d1 W h1 h2)
        have hqt := Lib.hid (fun W (h1 : SR W A2 e.ts) (h2 : SR W B2 f.ts) => HS.out (ssz e.ts) (by have := hG.out; omega) e.ts f.ts (Nat.le_refl _) (by have := hG.out; omega) A2 c2 B2 d2 W h1 h2)
        have hqu := Lib.hid (fun W (h1 : SR W A3 e.us) (h2 : SR W B3 f.us) => HS.out (ssz e.us) (by have := hG.out; omega) e.us f.us (Nat.le_refl _) (by have := hG.out; omega) A3 c3 B3 d3 W h1 h2)
        have HE := Lib.hid (And.intro he hf)
        have s0 := And.intro (And.intro e0 (And.intro e1 (And.intro e2 (And.intro e3 (And.intro e4 (And.intro e5 e6)))))) (And.intro f0 (And.intro f1 (And.intro f2 (And.intro f3 (And.intro f4 (And.intro f5 f6))))))
        have s00 := s0
        have HST : Hid (smy1 e f = true → Hid (∀ j a b, j < i + 1 → r[j]? = some a → s[j]? = some b → smy1 a b = true)) := fun hr j a b hj ha hb => by
          rcases Nat.lt_or_ge j i with h | h
          · exact hst.out j a b h ha hb
          · obtain rfl : j = i := by omega
            have t1 := HE.out.1.symm.trans ha
            have t2 := HE.out.2.symm.trans hb
            injection t1 with t1
            injection t2 with t2
            rw [← t1, ← t2]; exact hr
        have HNO : Hid (smy1 e f = false → b = false) := fun hr => by rw [HB.out]; exact smy_noat HE.out.1 HE.out.2 hr
        have HXY := Lib.hid (And.intro (And.intro hx1 (And.intro hx2 hx3)) (And.intro hy1 (And.intro hy2 hy3)))
        have HE1 := Lib.hid (smy1_eq e f)
        clear e0 e1 e2 e3 e4 e5 e6 f0 f1 f2 f3 f4 f5 f6 he hf hx1 hx2 hx3 hy1 hy2 hy3 hz hz3 hst HE HB
        generalize smy1 e f = sm at *
        cases e with
        | mk k x es ts us l c =>
        cases f with
        | mk k' x' es' ts' us' l' c' =>
        simp only [SV.k, SV.x, SV.es, SV.ts, SV.us, SV.l, SV.c] at *
        generalize smx es es' = bx at *
        generalize smy ts ts' = bt at *
        generalize smy us us' = bu at *
        go_wp2_with fail
        have n1 := World.new_ne wr _ s00.1.1
        have n2 := World.new_ne wr _ s00.2.1
        go_region_held3 (fun w' => (w'.cell? (ad.add (i * 7)) = some (.int .i64 k) ∧ w'.cell? ⟨(ad.add (i * 7)).block, (ad.add (i * 7)).off + 1, none⟩ = some (.string ⟨x.toArray⟩) ∧ w'.cell? ⟨(ad.add (i * 7)).block, (ad.add (i * 7)).off + 2, none⟩ = some (.slice A1 es.length c1) ∧ w'.cell? ⟨(ad.add (i * 7)).block, (ad.add (i * 7)).off + 3, none⟩ = some (.slice A2 ts.length c2) ∧ w'.cell? ⟨(ad.add (i * 7)).block, (ad.add (i * 7)).off + 4, none⟩ = some (.slice A3 us.length c3) ∧ w'.cell? ⟨(ad.add (i * 7)).block, (ad.add (i * 7)).off + 5, none⟩ = some (.int .i64 l) ∧ w'.cell? ⟨(ad.add (i * 7)).block, (ad.add (i * 7)).off + 6, none⟩ = some (.int .i64 c)) ∧ w'.cell? (ad2.add (i * 7)) = some (.int .i64 k') ∧ w'.cell? ⟨(ad2.add (i * 7)).block, (ad2.add (i * 7)).off + 1, none⟩ = some (.string ⟨x'.toArray⟩) ∧ w'.cell? ⟨(ad2.add (i * 7)).block, (ad2.add (i * 7)).off + 2, none⟩ = some (.slice B1 es'.length d1) ∧ w'.cell? ⟨(ad2.add (i * 7)).block, (ad2.add (i * 7)).off + 3, none⟩ = some (.slice B2 ts'.length d2) ∧ w'.cell? ⟨(ad2.add (i * 7)).block, (ad2.add (i * 7)).off + 4, none⟩ = some (.slice B3 us'.length d3) ∧ w'.cell? ⟨(ad2.add (i * 7)).block, (ad2.add (i * 7)).off + 5, none⟩ = some (.int .i64 l') ∧ w'.cell? ⟨(ad2.add (i * 7)).block, (ad2.add (i * 7)).off + 6, none⟩ = some (.int .i64 c')) (first | with_reducible exact s0 | go_keep)
          (fail)
        · have p1 := ((Box.new wr [.int .i64 k, .string ⟨x.toArray⟩, .slice A1 es.length c1, .slice A2 ts.length c2, .slice A3 us.length c3, .int .i64 l, .int .i64 c] 118).step (bnew5 _ (.cells #[.int .i64 k', .string ⟨x'.toArray⟩, .slice B1 es'.length d1, .slice B2 ts'.length d2, .slice B3 us'.length d3, .int .i64 l', .int .i64 c'] 118))).drew
          have p2 := (Box.new (wr.alloc (.cells #[.int .i64 k, .string ⟨x.toArray⟩, .slice A1 es.length c1, .slice A2 ts.length c2, .slice A3 us.length c3, .int .i64 l, .int .i64 c] 118)) [.int .i64 k', .string ⟨x'.toArray⟩, .slice B1 es'.length d1, .slice B2 ts'.length d2, .slice B3 us'.length d3, .int .i64 l', .int .i64 c'] 118).drew
          rw [show (wr.alloc (.cells #[.int .i64 k, .string ⟨x.toArray⟩, .slice A1 es.length c1, .slice A2 ts.length c2, .slice A3 us.length c3, .int .i64 l, .int .i64 c] 118)).heap.size = wr.heap.size + 1 by simp] at p2
          have hbV := (bth5 (bnew5 wr (.cells #[.int .i64 k, .string ⟨x.toArray⟩, .slice A1 es.length c1, .slice A2 ts.length c2, .slice A3 us.length c3, .int .i64 l, .int .i64 c] 118)) (bnew5 _ (.cells #[.int .i64 k', .string ⟨x'.toArray⟩, .slice B1 es'.length d1, .slice B2 ts'.length d2, .slice B3 us'.length d3, .int .i64 l', .int .i64 c'] 118))).drew
          have hK : Hid (Box ((wr.alloc (.cells #[.int .i64 k, .string ⟨x.toArray⟩, .slice A1 es.length c1, .slice A2 ts.length c2, .slice A3 us.length c3, .int .i64 l, .int .i64 c] 118)).alloc (.cells #[.int .i64 k', .string ⟨x'.toArray⟩, .slice B1 es'.length d1, .slice B2 ts'.length d2, .slice B3 us'.length d3, .int .i64 l', .int .i64 c'] 118)).drew wr.heap.size [.int .i64 k, .string ⟨x.toArray⟩, .slice A1 es.length c1, .slice A2 ts.length c2, .slice A3 us.length c3, .int .i64 l, .int .i64 c] ∧ Box ((wr.alloc (.cells #[.int .i64 k, .string ⟨x.toArray⟩, .slice A1 es.length c1, .slice A2 ts.length c2, .slice A3 us.length c3, .int .i64 l, .int .i64 c] 118)).alloc (.cells #[.int .i64 k', .string ⟨x'.toArray⟩, .slice B1 es'.length d1, .slice B2 ts'.length d2, .slice B3 us'.length d3, .int .i64 l', .int .i64 c'] 118)).drew (wr.heap.size + 1) [.int .i64 k', .string ⟨x'.toArray⟩, .slice B1 es'.length d1, .slice B2 ts'.length d2, .slice B3 us'.length d3, .int .i64 l', .int .i64 c'] ∧ Below w.heap.size w ((wr.alloc (.cells #[.int .i64 k, .string ⟨x.toArray⟩, .slice A1 es.length c1, .slice A2 ts.length c2, .slice A3 us.length c3, .int .i64 l, .int .i64 c] 118)).alloc (.cells #[.int .i64 k', .string ⟨x'.toArray⟩, .slice B1 es'.length d1, .slice B2 ts'.length d2, .slice B3 us'.length d3, .int .i64 l', .int .i64 c'] 118)).drew ∧ Below wr.heap.size wr ((wr.alloc (.cells #[.int .i64 k, .string ⟨x.toArray⟩, .slice A1 es.length c1, .slice A2 ts.length c2, .slice A3 us.length c3, .int .i64 l, .int .i64 c] 118)).alloc (.cells #[.int .i64 k', .string ⟨x'.toArray⟩, .slice B1 es'.length d1, .slice B2 ts'.length d2, .slice B3 us'.length d3, .int .i64 l', .int .i64 c'] 118)).drew) := ⟨p1, p2, bth5 hd.out hbV, hbV⟩
          clear p1 p2 hbV s00 n1 n2
          generalize ((wr.alloc (.cells #[.int .i64 k, .string ⟨x.toArray⟩, .slice A1 es.length c1, .slice A2 ts.length c2, .slice A3 us.length c3, .int .i64 l, .int .i64 c] 118)).alloc (.cells #[.int .i64 k', .string ⟨x'.toArray⟩, .slice B1 es'.length d1, .slice B2 ts'.length d2, .slice B3 us'.length d3, .int .i64 l', .int .i64 c'] 118)).drew = V at *
          generalize wr.heap.size + 1 = g2 at *
          have sA := hK.out.1.seven
          have sB := hK.out.2.1.seven
          by_cases h1 : k = k'
          · by_cases h2 : x = x'
            · subst h1
              subst h2
              generalize (⟨x.toArray⟩ : ByteArray) = xs at *
              have ex : (xs.toList == xs.toList) = true := by simp
              have hE : Hid (sm = (bx && (bt && bu))) := by show sm = _; rw [HE1.out]; simp
              clear HE1
              have qx := hqx.out V (HXY.out.1.1.step hK.out.2.2.2) (HXY.out.2.1.step hK.out.2.2.2)
              go_wp2_with fail
              refine qx.mono ?_
              rintro v w1 ⟨rfl, hw1⟩
              have hK1 := Lib.hid (And.intro (hK.out.1.step hw1) (And.intro (hK.out.2.1.step hw1) (And.intro (bth5 hK.out.2.2.1 hw1) (bth5 hK.out.2.2.2 hw1))))
              clear qx sA sB hK
              have sA := hK1.out.1.seven
              have sB := hK1.out.2.1.seven
              have qt := hqt.out w1 (HXY.out.1.2.1.step hK1.out.2.2.2) (HXY.out.2.2.1.step hK1.out.2.2.2)
              cases bx with
              | false =>
                have hv := Lib.hid (HNO.out hE.out)
                go_wp2_with fail
                go_ret
                exact ⟨by rw [hv.out]; rfl, hK1.out.2.2.1⟩
              | true =>
                go_wp2_with fail
                refine qt.mono ?_
                rintro v w2 ⟨rfl, hw2⟩
                have hK2 := Lib.hid (And.intro (hK1.out.1.step hw2) (And.intro (hK1.out.2.1.step hw2) (And.intro (bth5 hK1.out.2.2.1 hw2) (bth5 hK1.out.2.2.2 hw2))))
                clear qt sA sB hK1
                have sA := hK2.out.1.seven
                have sB := hK2.out.2.1.seven
                have qu := hqu.out w2 (HXY.out.1.2.2.step hK2.out.2.2.2) (HXY.out.2.2.2.step hK2.out.2.2.2)
                cases bt with
                | false =>
                  have hv := Lib.hid (HNO.out hE.out)
                  go_wp2_with fail
                  go_ret
                  exact ⟨by rw [hv.out]; rfl, hK2.out.2.2.1⟩
                | true =>
                  go_wp2_with fail
                  refine qu.mono ?_
                  rintro v w3 ⟨rfl, hw3⟩
                  have hb3 := Lib.hid (bth5 hK2.out.2.2.1 hw3)
                  cases bu with
                  | false =>
                    have hv := Lib.hid (HNO.out hE.out)
                    go_wp2_with fail
                    go_ret
                    exact ⟨by rw [hv.out]; rfl, hb3.out⟩
                  | true =>
                    have hst2 := HST.out hE.out
                    go_wp2_with fail
                    exact ⟨⟨i + 1, by omega, by go_num, hst2, hb3⟩, by simp [intOf]; omega⟩
            · subst h1
              have e2 := ne_texts6 h2
              have hE : Hid (sm = false) := by show sm = _; rw [HE1.out]; simp [h2]
              clear HE1
              generalize (⟨x.toArray⟩ : ByteArray) = xs at *
              generalize (⟨x'.toArray⟩ : ByteArray) = ys at *
              have hv := Lib.hid (HNO.out hE.out)
              go_wp2_with fail
              go_ret
              exact ⟨by rw [hv.out]; rfl, hK.out.2.2.1⟩
          · have e1 : (k == k') = false := by simp [h1]
            have hE : Hid (sm = false) := by show sm = _; rw [HE1.out]; simp [h1]
            clear HE1
            have hv := Lib.hid (HNO.out hE.out)
            go_wp2_with fail
            go_ret
            exact ⟨by rw [hv.out]; rfl, hK.out.2.2.1⟩
        · have p1 := ((Box.new wr [.int .i64 k', .string ⟨x'.toArray⟩, .slice B1 es'.length d1, .slice B2 ts'.length d2, .slice B3 us'.length d3, .int .i64 l', .int .i64 c'] 118).step (bnew5 _ (.cells #[.int .i64 k, .string ⟨x.toArray⟩, .slice A1 es.length c1, .slice A2 ts.length c2, .slice A3 us.length c3, .int .i64 l, .int .i64 c] 118))).drew
          have p2 := (Box.new (wr.alloc (.cells #[.int .i64 k', .string ⟨x'.toArray⟩, .slice B1 es'.length d1, .slice B2 ts'.length d2, .slice B3 us'.length d3, .int .i64 l', .int .i64 c'] 118)) [.int .i64 k, .string ⟨x.toArray⟩, .slice A1 es.length c1, .slice A2 ts.length c2, .slice A3 us.length c3, .int .i64 l, .int .i64 c] 118).drew
          rw [show (wr.alloc (.cells #[.int .i64 k', .string ⟨x'.toArray⟩, .slice B1 es'.length d1, .slice B2 ts'.length d2, .slice B3 us'.length d3, .int .i64 l', .int .i64 c'] 118)).heap.size = wr.heap.size + 1 by simp] at p2
          have hbV := (bth5 (bnew5 wr (.cells #[.int .i64 k', .string ⟨x'.toArray⟩, .slice B1 es'.length d1, .slice B2 ts'.length d2, .slice B3 us'.length d3, .int .i64 l', .int .i64 c'] 118)) (bnew5 _ (.cells #[.int .i64 k, .string ⟨x.toArray⟩, .slice A1 es.length c1, .slice A2 ts.length c2, .slice A3 us.length c3, .int .i64 l, .int .i64 c] 118))).drew
          have hK : Hid (Box ((wr.alloc (.cells #[.int .i64 k', .string ⟨x'.toArray⟩, .slice B1 es'.length d1, .slice B2 ts'.length d2, .slice B3 us'.length d3, .int .i64 l', .int .i64 c'] 118)).alloc (.cells #[.int .i64 k, .string ⟨x.toArray⟩, .slice A1 es.length c1, .slice A2 ts.length c2, .slice A3 us.length c3, .int .i64 l, .int .i64 c] 118)).drew (wr.heap.size + 1) [.int .i64 k, .string ⟨x.toArray⟩, .slice A1 es.length c1, .slice A2 ts.length c2, .slice A3 us.length c3, .int .i64 l, .int .i64 c] ∧ Box ((wr.alloc (.cells #[.int .i64 k', .string ⟨x'.toArray⟩, .slice B1 es'.length d1, .slice B2 ts'.length d2, .slice B3 us'.length d3, .int .i64 l', .int .i64 c'] 118)).alloc (.cells #[.int .i64 k, .string ⟨x.toArray⟩, .slice A1 es.length c1, .slice A2 ts.length c2, .slice A3 us.length c3, .int .i64 l, .int .i64 c] 118)).drew wr.heap.size [.int .i64 k', .string ⟨x'.toArray⟩, .slice B1 es'.length d1, .slice B2 ts'.length d2, .slice B3 us'.length d3, .int .i64 l', .int .i64 c'] ∧ Below w.heap.size w ((wr.alloc (.cells #[.int .i64 k', .string ⟨x'.toArray⟩, .slice B1 es'.length d1, .slice B2 ts'.length d2, .slice B3 us'.length d3, .int .i64 l', .int .i64 c'] 118)).alloc (.cells #[.int .i64 k, .string ⟨x.toArray⟩, .slice A1 es.length c1, .slice A2 ts.length c2, .slice A3 us.length c3, .int .i64 l, .int .i64 c] 118)).drew ∧ Below wr.heap.size wr ((wr.alloc (.cells #[.int .i64 k', .string ⟨x'.toArray⟩, .slice B1 es'.length d1, .slice B2 ts'.length d2, .slice B3 us'.length d3, .int .i64 l', .int .i64 c'] 118)).alloc (.cells #[.int .i64 k, .string ⟨x.toArray⟩, .slice A1 es.length c1, .slice A2 ts.length c2, .slice A3 us.length c3, .int .i64 l, .int .i64 c] 118)).drew) := ⟨p2, p1, bth5 hd.out hbV, hbV⟩
          clear p1 p2 hbV s00 n1 n2
          generalize ((wr.alloc (.cells #[.int .i64 k', .string ⟨x'.toArray⟩, .slice B1 es'.length d1, .slice B2 ts'.length d2, .slice B3 us'.length d3, .int .i64 l', .int .i64 c'] 118)).alloc (.cells #[.int .i64 k, .string ⟨x.toArray⟩, .slice A1 es.length c1, .slice A2 ts.length c2, .slice A3 us.length c3, .int .i64 l, .int .i64 c] 118)).drew = V at *
          generalize wr.heap.size + 1 = g2 at *
          have sA := hK.out.1.seven
          have sB := hK.out.2.1.seven
          by_cases h1 : k = k'
          · by_cases h2 : x = x'
            · subst h1
              subst h2
              generalize (⟨x.toArray⟩ : ByteArray) = xs at *
              have ex : (xs.toList == xs.toList) = true := by simp
              have hE : Hid (sm = (bx && (bt && bu))) := by show sm = _; rw [HE1.out]; simp
              clear HE1
              have qx := hqx.out V (HXY.out.1.1.step hK.out.2.2.2) (HXY.out.2.1.step hK.out.2.2.2)
              go_wp2_with fail
              refine qx.mono ?_
              rintro v w1 ⟨rfl, hw1⟩
              have hK1 := Lib.hid (And.intro (hK.out.1.step hw1) (And.intro (hK.out.2.1.step hw1) (And.intro (bth5 hK.out.2.2.1 hw1) (bth5 hK.out.2.2.2 hw1))))
              clear qx sA sB hK
              have sA := hK1.out.1.seven
              have sB := hK1.out.2.1.seven
              have qt := hqt.out w1 (HXY.out.1.2.1.step hK1.out.2.2.2) (HXY.out.2.2.1.step hK1.out.2.2.2)
              cases bx with
              | false =>
                have hv := Lib.hid (HNO.out hE.out)
                go_wp2_with fail
                go_ret
                exact ⟨by rw [hv.out]; rfl, hK1.out.2.2.1⟩
              | true =>
                go_wp2_with fail
                refine qt.mono ?_
                rintro v w2 ⟨rfl, hw2⟩
                have hK2 := Lib.hid (And.intro (hK1.out.1.step hw2) (And.intro (hK1.out.2.1.step hw2) (And.intro (bth5 hK1.out.2.2.1 hw2) (bth5 hK1.out.2.2.2 hw2))))
                clear qt sA sB hK1
                have sA := hK2.out.1.seven
                have sB := hK2.out.2.1.seven
                have qu := hqu.out w2 (HXY.out.1.2.2.step hK2.out.2.2.2) (HXY.out.2.2.2.step hK2.out.2.2.2)
                cases bt with
                | false =>
                  have hv := Lib.hid (HNO.out hE.out)
                  go_wp2_with fail
                  go_ret
                  exact ⟨by rw [hv.out]; rfl, hK2.out.2.2.1⟩
                | true =>
                  go_wp2_with fail
                  refine qu.mono ?_
                  rintro v w3 ⟨rfl, hw3⟩
                  have hb3 := Lib.hid (bth5 hK2.out.2.2.1 hw3)
                  cases bu with
                  | false =>
                    have hv := Lib.hid (HNO.out hE.out)
                    go_wp2_with fail
                    go_ret
                    exact ⟨by rw [hv.out]; rfl, hb3.out⟩
                  | true =>
                    have hst2 := HST.out hE.out
                    go_wp2_with fail
                    exact ⟨⟨i + 1, by omega, by go_num, hst2, hb3⟩, by simp [intOf]; omega⟩
            · subst h1
              have e2 := ne_texts6 h2
              have hE : Hid (sm = false) := by show sm = _; rw [HE1.out]; simp [h2]
              clear HE1
              generalize (⟨x.toArray⟩ : ByteArray) = xs at *
              generalize (⟨x'.toArray⟩ : ByteArray) = ys at *
              have hv := Lib.hid (HNO.out hE.out)
              go_wp2_with fail
              go_ret
              exact ⟨by rw [hv.out]; rfl, hK.out.2.2.1⟩
          · have e1 : (k == k') = false := by simp [h1]
            have hE : Hid (sm = false) := by show sm = _; rw [HE1.out]; simp [h1]
            clear HE1
            have hv := Lib.hid (HNO.out hE.out)
            go_wp2_with fail
            go_ret
            exact ⟨by rw [hv.out]; rfl, hK.out.2.2.1⟩
      · obtain rfl : i = m := by omega
        have hlt' : ¬ (i : Int) < i := by omega
        have hv : Hid (b = true) := by
          show b = _
          rw [HB.out]
          exact smy_yes HL.out fun j a b hj => hst.out j a b (by rw [HM.out]; exact hj)
        clear HB hst
        go_wp2_with fail
        go_ret
        exact ⟨by rw [hv.out]; rfl, hbw.out⟩
  · have hv : Hid (b = false) := by show b = _; rw [HB.out]; exact smy_nolen hl
    have e1 : ((r.length : Int) == s.length) = false := by simp; omega
    have e2 : ¬ (r.length : Int) = s.length := by omega
    clear hb hx hy hr hlen hS HB
    generalize r.length = m at *
    generalize s.length = m' at *
    go_enter Tryd.func73, Tryd.ntmps73
    go_wp2_with fail
    go_ret
    exact ⟨by rw [hv.out]; rfl, Below.refl _ _⟩
theorem refSameS (N : Nat) : SameSB N := by
  induction N using Nat.strongRecOn with
  | ind N ih => exact refSameSB N ih
end Go.Proofs.YtkmioieanopafaaDoor
