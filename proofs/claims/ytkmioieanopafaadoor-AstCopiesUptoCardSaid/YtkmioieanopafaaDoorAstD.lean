/- Sizes and depths of trees: the reference of layer 6. -/
import Derived.Test.YtkmioieanopafaaDoorAstC
namespace Go.Proofs.YtkmioieanopafaaDoor
open Go.RowKit

mutual
/-- How deep one is; a row. -/
def xdp1 : XV → Nat
  | .mk _ _ _ _ gs _ _ => 1 + xdp gs
def xdp : List XV → Nat
  | [] => 0
  | e :: r => max (xdp1 e) (xdp r)
end
mutual
def sdp1 : SV → Nat
  | .mk _ _ es ts us _ _ => 1 + max (max (xdp es) (sdp ts)) (sdp us)
def sdp : List SV → Nat
  | [] => 0
  | e :: r => max (sdp1 e) (sdp r)
end
theorem xdp1_eq (e : XV) : xdp1 e = 1 + xdp e.gs := by cases e; simp [xdp1, XV.gs]
theorem sdp1_eq (s : SV) : sdp1 s = 1 + max (max (xdp s.es) (sdp s.ts)) (sdp s.us) := by cases s; simp [sdp1, SV.es, SV.ts, SV.us]
theorem xdp_snoc (r : List XV) (e : XV) : xdp (r ++ [e]) = max (xdp r) (xdp1 e) := by
  induction r with
  | nil => simp [xdp]
  | cons a r ih => simp only [List.cons_append, xdp, ih]; omega
theorem sdp_snoc (r : List SV) (e : SV) : sdp (r ++ [e]) = max (sdp r) (sdp1 e) := by
  induction r with
  | nil => simp [sdp]
  | cons a r ih => simp only [List.cons_append, sdp, ih]; omega
theorem xdp_take {es : List XV} {i : Nat} {e : XV} (h : es[i]? = some e) : xdp (es.take (i + 1)) = max (xdp (es.take i)) (1 + xdp e.gs) := by
  rw [List.take_add_one, h, ← xdp1_eq]
  exact xdp_snoc _ _
theorem sdp_take {es : List SV} {i : Nat} {e : SV} (h : es[i]? = some e) : sdp (es.take (i + 1)) = max (sdp (es.take i)) (1 + max (max (xdp e.es) (sdp e.ts)) (sdp e.us)) := by
  rw [List.take_add_one, h, ← sdp1_eq]
  exact sdp_snoc _ _
mutual
theorem xdp1_le : ∀ e : XV, xdp1 e ≤ xsz1 e
  | .mk k n x o gs l c => by
    have := xdp_le gs
    simp only [xdp1, xsz1]; omega
theorem xdp_le : ∀ es : List XV, xdp es ≤ xsz es
  | [] => by simp [xdp]
  | e :: r => by
    have := xdp1_le e
    have := xdp_le r
    simp only [xdp, xsz]; omega
end
mutual
theorem sdp1_le : ∀ e : SV, sdp1 e ≤ ssz1 e
  | .mk k x es ts us l c => by
    have := xdp_le es
    have := sdp_le ts
    have := sdp_le us
    simp only [sdp1, ssz1]; omega
theorem sdp_le : ∀ es : List SV, sdp es ≤ ssz es
  | [] => by simp [sdp]
  | e :: r => by
    have := sdp1_le e
    have := sdp_le r
    simp only [sdp, ssz]; omega
end

/-- The cell of an expression where its arguments stand, found by a row's address. -/
theorem XR.args {W : World} {A : Option Addr} {es : List XV} (h : XR W A es) {i : Nat} (hi : i < es.length) : ∃ ad e A' c', A = some ad ∧ es[i]? = some e ∧ W.cell? ⟨(ad.add (i * 7)).block, (ad.add (i * 7)).off + 4, none⟩ = some (.slice A' e.gs.length c') ∧ XR W A' e.gs := by
  obtain ⟨ad, e, hA, he, A', c', _, _, _, _, h4, _, _, h7⟩ := h.el hi
  exact ⟨ad, e, A', c', hA, he, h4, h7⟩

set_option maxHeartbeats 1000000 in
theorem refSizeX (N : Nat) : ∀ (es : List XV), xsz es ≤ N → N ≤ 4000000 → ∀ (A : Option Addr) (c : Nat) (w : World), XR w A es → Calls Tryd.prog 94 #[.slice A es.length c] w fun e w' => e = .returned (.int .i64 ((xsz es : Nat) : Int)) ∧ w' = w := by
  induction N using Nat.strongRecOn with
  | ind N ih =>
  intro es hN hNN A c w hx
  have hlen := xsz_len es
  have hV : Hid (xsz (es.take es.length) = xsz es) := by show xsz (es.take es.length) = xsz es; rw [List.take_length]
  have hTL := Lib.hid (xsz_take_le es)
  obtain ⟨n, hn⟩ : ∃ n, n = es.length := ⟨_, rfl⟩
  have hx2 := Lib.hid hx
  rw [← hn]
  rw [← hn] at hV
  rw [← hn] at hlen
  have HN := Lib.hid hn
  clear hn hx
  go_enter Tryd.func94, Tryd.ntmps94
  go_wp2_with fail
  go_loopw [3, 4] (fun v u W => ∃ i : Nat, i ≤ n ∧ u = .int .i64 i ∧ v = .int .i64 ((xsz (es.take i) : Nat) : Int) ∧ W = w) (fun _ u _ => n - (intOf u).toNat)
  case atStart => exact ⟨0, by omega, rfl, by simp [xsz], rfl⟩
  case round =>
    obtain ⟨i, hi, rfl, rfl, rfl⟩ := hrel
    by_cases hlt : i < n
    · have hlt' : (i : Int) < n := by omega
      obtain ⟨ad, e, A', c', rfl, he, hc, hx'⟩ := hx2.out.args (i := i) (by rw [← HN.out]; exact hlt)
      have ht := xsz_take he
      have ht2 := hTL.out (i + 1)
      have hq := ih (xsz e.gs) (by omega) e.gs (Nat.le_refl _) (by omega) A' c' wr hx'
      have HT := Lib.hid ht
      generalize e.gs.length = m at *
      generalize xsz (es.take i) = a at *
      generalize xsz e.gs = b at *
      have h1 : IntKind.i64.wrap ((a : Int) + 1) = (a : Int) + 1 := wrap_small _ (by omega) (by omega)
      have h2 : IntKind.i64.wrap ((a : Int) + 1 + b) = (a : Int) + 1 + b := wrap_small _ (by omega) (by omega)
      clear he hx' ht
      go_wp2_with fail
      refine hq.mono ?_
      rintro e1 w1 ⟨rfl, rfl⟩
      go_wp2_with fail
      exact ⟨⟨i + 1, by omega, by go_num, by rw [HT.out]; congr 1; omega, by first | rfl | trivial⟩, by simp [intOf]; omega⟩
    · obtain rfl : i = n := by omega
      have hlt' : ¬ (i : Int) < i := by omega
      rw [hV.out]
      go_wp2_with fail
      go_ret
      exact ⟨rfl, rfl⟩

/-- A statement of a row whose three rows are read, while nothing old is turned. -/
structure KB (w W : World) (p : Addr) (A1 : Option Addr) (c1 : Nat) (A2 : Option Addr) (c2 : Nat) (A3 : Option Addr) (c3 : Nat) (es : List XV) (ts us : List SV) : Prop where
  b : Below w.heap.size w W
  c : W.cell? ⟨p.block, p.off + 2, none⟩ = some (.slice A1 es.length c1) ∧ W.cell? ⟨p.block, p.off + 3, none⟩ = some (.slice A2 ts.length c2) ∧ W.cell? ⟨p.block, p.off + 4, none⟩ = some (.slice A3 us.length c3)
  x : XR W A1 es
  t : SR W A2 ts
  u : SR W A3 us
theorem KB.step {w W W' : World} {p : Addr} {A1 : Option Addr} {c1 : Nat} {A2 : Option Addr} {c2 : Nat} {A3 : Option Addr} {c3 : Nat} {es : List XV} {ts us : List SV} (h : KB w W p A1 c1 A2 c2 A3 c3 es ts us) (hb : Below W.heap.size W W') : KB w W' p A1 c1 A2 c2 A3 c3 es ts us :=
  ⟨bth5 h.b hb, ⟨cst5 hb h.c.1, cst5 hb h.c.2.1, cst5 hb h.c.2.2⟩, h.x.step hb, h.t.step hb, h.u.step hb⟩
theorem SR.kb {W : World} {A : Option Addr} {l : List SV} (h : SR W A l) {i : Nat} (hi : i < l.length) : ∃ ad e A1 c1 A2 c2 A3 c3, A = some ad ∧ l[i]? = some e ∧ KB W W (ad.add (i * 7)) A1 c1 A2 c2 A3 c3 e.es e.ts e.us := by
  obtain ⟨ad, e, hA, he, A1, c1, A2, c2, A3, c3, _, _, h2, h3, h4, _, _, h5, h6, h7⟩ := h.el hi
  exact ⟨ad, e, A1, c1, A2, c2, A3, c3, hA, he, Below.refl _ _, ⟨h2, h3, h4⟩, h5, h6, h7⟩

set_option maxHeartbeats 4000000 in
theorem refSizeS (N : Nat) : ∀ (l : List SV), ssz l ≤ N → N ≤ 4000000 → ∀ (A : Option Addr) (c : Nat) (w : World), SR w A l → Calls Tryd.prog 62 #[.slice A l.length c] w fun e w' => e = .returned (.int .i64 ((ssz l : Nat) : Int)) ∧ Below w.heap.size w w' := by
  induction N using Nat.strongRecOn with
  | ind N ih =>
  intro l hN hNN A c w hx
  have hlen := ssz_len l
  have hV : Hid (ssz (l.take l.length) = ssz l) := by show ssz (l.take l.length) = ssz l; rw [List.take_length]
  have hTL := Lib.hid (ssz_take_le l)
  obtain ⟨n, hn⟩ : ∃ n, n = l.length := ⟨_, rfl⟩
  have hx2 := Lib.hid hx
  rw [← hn]
  rw [← hn] at hV
  rw [← hn] at hlen
  have HN := Lib.hid hn
  clear hn hx
  go_enter Tryd.func62, Tryd.ntmps62
  go_wp2_with fail
  go_loopw [3, 4] (fun v u W => ∃ i : Nat, i ≤ n ∧ u = .int .i64 i ∧ v = .int .i64 ((ssz (l.take i) : Nat) : Int) ∧ Hid (Below w.heap.size w W)) (fun _ u _ => n - (intOf u).toNat)
  case atStart => exact ⟨0, by omega, rfl, by simp [ssz], Below.refl _ _⟩
  case round =>
    obtain ⟨i, hi, rfl, rfl, hbw⟩ := hrel
    by_cases hlt : i < n
    · have hlt' : (i : Int) < n := by omega
      obtain ⟨ad, e, A1, c1, A2, c2, A3, c3, rfl, he, hk⟩ := (hx2.out.step hbw.out).kb (i := i) (by rw [← HN.out]; exact hlt)
      have ht := ssz_take he
      have ht2 := hTL.out (i + 1)
      obtain ⟨b1, hb1⟩ : ∃ b1, b1 = xsz e.es := ⟨_, rfl⟩
      obtain ⟨b2, hb2⟩ : ∃ b2, b2 = ssz e.ts := ⟨_, rfl⟩
      obtain ⟨b3, hb3⟩ : ∃ b3, b3 = ssz e.us := ⟨_, rfl⟩
      obtain ⟨a, ha⟩ : ∃ a, a = ssz (l.take i) := ⟨_, rfl⟩
      rw [← hb1, ← hb2, ← hb3, ← ha] at ht
      have k0 := Lib.hid (hk.step (Below.refl wr.heap.size wr).drew)
      have qx := refSizeX (xsz e.es) e.es (Nat.le_refl _) (by omega) A1 c1 wr.drew k0.out.x
      have q1 := ih (ssz e.ts) (by omega) e.ts (Nat.le_refl _) (by omega) A2 c2 wr.drew k0.out.t
      have q2 := Lib.hid (fun W (h : SR W A3 e.us) => ih (ssz e.us) (by omega) e.us (Nat.le_refl _) (by omega) A3 c3 W h)
      have HT := Lib.hid ht
      have s0 := k0.out.c
      rw [← hb1] at qx
      rw [← hb2] at q1
      rw [← hb3] at q2
      rw [← ha]
      have B1 : b1 ≤ 4000000 := by omega
      have B2 : b2 ≤ 4000000 := by omega
      have B3 : b3 ≤ 4000000 := by omega
      have Ba : a ≤ 4000000 := by omega
      clear hb1 hb2 hb3 ha he ht ht2 hk
      go_wp2_with fail
      have h1 : IntKind.i64.wrap ((a : Int) + 1) = (a : Int) + 1 := wrap_small _ (by omega) (by omega)
      have h2 : IntKind.i64.wrap ((a : Int) + 1 + b1) = (a : Int) + 1 + b1 := wrap_small _ (by omega) (by omega)
      have h3 : IntKind.i64.wrap ((a : Int) + 1 + b1 + b2) = (a : Int) + 1 + b1 + b2 := wrap_small _ (by omega) (by omega)
      have h4 : IntKind.i64.wrap ((a : Int) + 1 + b1 + b2 + b3) = (a : Int) + 1 + b1 + b2 + b3 := wrap_small _ (by omega) (by omega)
      go_region_held3 (fun w' => w'.cell? ⟨(ad.add (i * 7)).block, (ad.add (i * 7)).off + 2, none⟩ = some (.slice A1 e.es.length c1) ∧ w'.cell? ⟨(ad.add (i * 7)).block, (ad.add (i * 7)).off + 3, none⟩ = some (.slice A2 e.ts.length c2) ∧ w'.cell? ⟨(ad.add (i * 7)).block, (ad.add (i * 7)).off + 4, none⟩ = some (.slice A3 e.us.length c3)) (first | with_reducible exact s0 | with_reducible exact s1 | with_reducible exact s2)
        (first
          | (go_at_call 94
             with_reducible refine qx.mono ?_
             rintro e1 w1 ⟨rfl, rfl⟩)
          | (go_at_call 62
             with_reducible refine q1.mono ?_
             rintro e1 w1 ⟨rfl, hw1⟩
             have k1 := Lib.hid (k0.out.step hw1)
             have s1 := k1.out.c
             have q3 := q2.out w1 k1.out.u)
          | (go_at_call 62
             with_reducible refine q3.mono ?_
             rintro e1 w2 ⟨rfl, hw2⟩
             have k2 := Lib.hid (k1.out.step hw2)
             have s2 := k2.out.c))
      go_wp2_with fail
      exact ⟨⟨i + 1, by omega, by go_num, by rw [HT.out]; congr 1; omega, bth5 hbw.out k2.out.b⟩, by simp [intOf]; omega⟩
    · obtain rfl : i = n := by omega
      have hlt' : ¬ (i : Int) < i := by omega
      rw [hV.out]
      go_wp2_with fail
      go_ret
      exact ⟨rfl, hbw.out⟩
set_option maxHeartbeats 1000000 in
theorem refDepthX (N : Nat) : ∀ (es : List XV), xsz es ≤ N → N ≤ 4000000 → ∀ (A : Option Addr) (c : Nat) (w : World), XR w A es → Calls Tryd.prog 97 #[.slice A es.length c] w fun e w' => e = .returned (.int .i64 ((xdp es : Nat) : Int)) ∧ w' = w := by
  induction N using Nat.strongRecOn with
  | ind N ih =>
  intro es hN hNN A c w hx
  have hlen := xsz_len es
  have hV : Hid (xdp (es.take es.length) = xdp es) := by show xdp (es.take es.length) = xdp es; rw [List.take_length]
  have hTL := Lib.hid (xsz_take_le es)
  obtain ⟨n, hn⟩ : ∃ n, n = es.length := ⟨_, rfl⟩
  have hx2 := Lib.hid hx
  rw [← hn]
  rw [← hn] at hV
  rw [← hn] at hlen
  have HN := Lib.hid hn
  clear hn hx
  go_enter Tryd.func97, Tryd.ntmps97
  go_wp2_with fail
  go_loopw [3, 4] (fun v u W => ∃ i : Nat, i ≤ n ∧ u = .int .i64 i ∧ v = .int .i64 ((xdp (es.take i) : Nat) : Int) ∧ W = w) (fun _ u _ => n - (intOf u).toNat)
  case atStart => exact ⟨0, by omega, rfl, by simp [xdp], rfl⟩
  case round =>
    obtain ⟨i, hi, rfl, rfl, rfl⟩ := hrel
    by_cases hlt : i < n
    · have hlt' : (i : Int) < n := by omega
      obtain ⟨ad, e, A', c', rfl, he, hc, hx'⟩ := hx2.out.args (i := i) (by rw [← HN.out]; exact hlt)
      have ht := xsz_take he
      have ht2 := hTL.out (i + 1)
      have hq := ih (xsz e.gs) (by omega) e.gs (Nat.le_refl _) (by omega) A' c' wr hx'
      have hd := xdp_take he
      have hdl := xdp_le e.gs
      have HT := Lib.hid hd
      generalize e.gs.length = m at *
      generalize xdp (es.take i) = a at *
      have hb : xdp e.gs ≤ 4000000 := by omega
      generalize xdp e.gs = b at *
      have h1 : IntKind.i64.wrap (1 + (b : Int)) = 1 + (b : Int) := wrap_small _ (by omega) (by omega)
      clear he hx' ht hd hdl ht2
      go_wp2_with fail
      refine hq.mono ?_
      rintro e1 w1 ⟨rfl, rfl⟩
      go_wp2_with fail
      exact ⟨⟨i + 1, by omega, by go_num, by rw [HT.out]; congr 1; omega, by first | rfl | trivial⟩, by simp [intOf]; omega⟩
    · obtain rfl : i = n := by omega
      have hlt' : ¬ (i : Int) < i := by omega
      rw [hV.out]
      go_wp2_with fail
      go_ret
      exact ⟨rfl, rfl⟩

set_option maxHeartbeats 4000000 in
theorem refDepthS (N : Nat) : ∀ (l : List SV), ssz l ≤ N → N ≤ 4000000 → ∀ (A : Option Addr) (c : Nat) (w : World), SR w A l → Calls Tryd.prog 67 #[.slice A l.length c] w fun e w' => e = .returned (.int .i64 ((sdp l : Nat) : Int)) ∧ Below w.heap.size w w' := by
  induction N using Nat.strongRecOn with
  | ind N ih =>
  intro l hN hNN A c w hx
  have hlen := ssz_len l
  have hV : Hid (sdp (l.take l.length) = sdp l) := by show sdp (l.take l.length) = sdp l; rw [List.take_length]
  have hTL := Lib.hid (ssz_take_le l)
  obtain ⟨n, hn⟩ : ∃ n, n = l.length := ⟨_, rfl⟩
  have hx2 := Lib.hid hx
  rw [← hn]
  rw [← hn] at hV
  rw [← hn] at hlen
  have HN := Lib.hid hn
  clear hn hx
  go_enter Tryd.func67, Tryd.ntmps67
  go_wp2_with fail
  go_loopw [3, 4] (fun v u W => ∃ i : Nat, i ≤ n ∧ u = .int .i64 i ∧ v = .int .i64 ((sdp (l.take i) : Nat) : Int) ∧ Hid (Below w.heap.size w W)) (fun _ u _ => n - (intOf u).toNat)
  case atStart => exact ⟨0, by omega, rfl, by simp [sdp], Below.refl _ _⟩
  case round =>
    obtain ⟨i, hi, rfl, rfl, hbw⟩ := hrel
    by_cases hlt : i < n
    · have hlt' : (i : Int) < n := by omega
      obtain ⟨ad, e, A1, c1, A2, c2, A3, c3, rfl, he, hk⟩ := (hx2.out.step hbw.out).kb (i := i) (by rw [← HN.out]; exact hlt)
      have ht := ssz_take he
      have ht2 := hTL.out (i + 1)
      obtain ⟨b1, hb1⟩ : ∃ b1, b1 = xdp e.es := ⟨_, rfl⟩
      obtain ⟨b2, hb2⟩ : ∃ b2, b2 = sdp e.ts := ⟨_, rfl⟩
      obtain ⟨b3, hb3⟩ : ∃ b3, b3 = sdp e.us := ⟨_, rfl⟩
      obtain ⟨a, ha⟩ : ∃ a, a = sdp (l.take i) := ⟨_, rfl⟩
      have hd := sdp_take he
      rw [← hb1, ← hb2, ← hb3, ← ha] at hd
      have l1 := xdp_le e.es
      have l2 := sdp_le e.ts
      have l3 := sdp_le e.us
      have k0 := Lib.hid (hk.step (Below.refl wr.heap.size wr).drew)
      have qx := refDepthX (xsz e.es) e.es (Nat.le_refl _) (by omega) A1 c1 wr.drew k0.out.x
      have q1 := ih (ssz e.ts) (by omega) e.ts (Nat.le_refl _) (by omega) A2 c2 wr.drew k0.out.t
      have q2 := Lib.hid (fun W (h : SR W A3 e.us) => ih (ssz e.us) (by omega) e.us (Nat.le_refl _) (by omega) A3 c3 W h)
      have HT := Lib.hid hd
      have s0 := k0.out.c
      rw [← hb1] at qx
      rw [← hb2] at q1
      rw [← hb3] at q2
      rw [← ha]
      have B1 : b1 ≤ 4000000 := by omega
      have B2 : b2 ≤ 4000000 := by omega
      have B3 : b3 ≤ 4000000 := by omega
      clear hb1 hb2 hb3 ha he ht ht2 hk hd l1 l2 l3
      go_wp2_with fail
      obtain ⟨m1, hm1⟩ : ∃ m1, m1 = max b1 b2 := ⟨_, rfl⟩
      obtain ⟨m2, hm2⟩ : ∃ m2, m2 = max m1 b3 := ⟨_, rfl⟩
      have g1 : (if b1 < b2 then (b2 : Int) else (b1 : Int)) = (m1 : Int) := by split <;> omega
      have g2 : (if m1 < b3 then (b3 : Int) else (m1 : Int)) = (m2 : Int) := by split <;> omega
      have h1 : IntKind.i64.wrap (1 + (m2 : Int)) = 1 + (m2 : Int) := wrap_small _ (by omega) (by omega)
      have HM := Lib.hid (And.intro hm1 hm2)
      clear hm1 hm2
      go_region_held3 (fun w' => w'.cell? ⟨(ad.add (i * 7)).block, (ad.add (i * 7)).off + 2, none⟩ = some (.slice A1 e.es.length c1) ∧ w'.cell? ⟨(ad.add (i * 7)).block, (ad.add (i * 7)).off + 3, none⟩ = some (.slice A2 e.ts.length c2) ∧ w'.cell? ⟨(ad.add (i * 7)).block, (ad.add (i * 7)).off + 4, none⟩ = some (.slice A3 e.us.length c3)) (first | with_reducible exact s0 | with_reducible exact s1 | with_reducible exact s2)
        (first
          | (go_at_call 97
             with_reducible refine qx.mono ?_
             rintro e1 w1 ⟨rfl, rfl⟩)
          | (go_at_call 67
             with_reducible refine q1.mono ?_
             rintro e1 w1 ⟨rfl, hw1⟩
             have k1 := Lib.hid (k0.out.step hw1)
             have s1 := k1.out.c
             have q3 := q2.out w1 k1.out.u)
          | (go_at_call 67
             with_reducible refine q3.mono ?_
             rintro e1 w2 ⟨rfl, hw2⟩
             have k2 := Lib.hid (k1.out.step hw2)
             have s2 := k2.out.c))
      go_wp2_with fail
      exact ⟨⟨i + 1, by omega, by go_num, by rw [HT.out]; have := HM.out; congr 1; omega, bth5 hbw.out k2.out.b⟩, by simp [intOf]; omega⟩
    · obtain rfl : i = n := by omega
      have hlt' : ¬ (i : Int) < i := by omega
      rw [hV.out]
      go_wp2_with fail
      go_ret
      exact ⟨rfl, hbw.out⟩
end Go.Proofs.YtkmioieanopafaaDoor
