/- The landed ast's depths of trees: greatest, exprDepth, stmtDepth, declDepth, Depth. -/
import Derived.Test.YtkmioieanopafaaDoorAstP
namespace Go.Proofs.YtkmioieanopafaaDoor
open Go.RowKit

/-- What greatest answers over a row. -/
def GreXC (l : List XV) : Prop := ∀ (A : Option Addr) (c : Nat) (w : World), XR w A l → Calls Tryd.prog 95 #[.slice A l.length c, .func (.func 96) #[] #[]] w fun e w' => e = .returned (.int .i64 ((xdp l : Nat) : Int)) ∧ Below w.heap.size w w'

set_option maxHeartbeats 1000000 in
theorem astXdepth1 (e : XV) (hN : xsz e.gs ≤ 4000000) (ih : GreXC e.gs) (A1 : Option Addr) (c1 : Nat) (w : World) (hx1 : XR w A1 e.gs) : Calls Tryd.prog 96 #[xval e A1 c1] w fun v w' => v = .returned (.int .i64 ((1 + xdp e.gs : Nat) : Int)) ∧ Below w.heap.size w w' := by
  have hq := fun W h => ih A1 c1 W h
  have hx2 := Lib.hid hx1
  have hle : xdp e.gs ≤ 4000000 := Nat.le_trans (xdp_le _) hN
  obtain ⟨z, hz⟩ : ∃ z, z = xdp e.gs := ⟨_, rfl⟩
  rw [← hz] at hq hle
  rw [← hz]
  have h1 : IntKind.i64.wrap (1 + (z : Int)) = 1 + (z : Int) := wrap_small _ (by omega) (by omega)
  have hb := Lib.hid (bnew5 w (.cells #[.int .i64 e.k, .int .i64 e.n, .string ⟨e.x.toArray⟩, .int .i64 e.o, .slice A1 e.gs.length c1, .int .i64 e.l, .int .i64 e.c] 66))
  have hq1 := hq _ (hx2.out.step hb.out)
  clear hx1 ih hz hq
  unfold xval
  go_enter Tryd.func96, Tryd.ntmps96
  go_wp2_with fail
  refine hq1.mono ?_
  rintro v w1 ⟨rfl, hw1⟩
  go_wp2_with fail
  go_ret
  exact ⟨by congr 2, bth5 hb.out hw1⟩

set_option maxHeartbeats 2000000 in
theorem astGreX (N : Nat) : ∀ (es : List XV), xsz es ≤ N → N ≤ 4000000 → GreXC es := by
  induction N using Nat.strongRecOn with
  | ind N ih =>
  intro es hN hNN A c w hx
  have hlen := xsz_len es
  have hV : Hid (xdp (es.take es.length) = xdp es) := by show xdp (es.take es.length) = xdp es; rw [List.take_length]
  have hTL := Lib.hid (xsz_take_le es)
  obtain ⟨n, hn⟩ : ∃ n, n = es.length := ⟨_, rfl⟩
  have hX := Lib.hid hx
  rw [← hn]
  rw [← hn] at hV
  rw [← hn] at hlen
  have HN := Lib.hid hn
  have IH := Lib.hid ih
  clear hn hx ih
  go_enter Tryd.func95, Tryd.ntmps95
  go_wp2_with fail
  go_loopw [5, 10] (fun v u W => ∃ i : Nat, i ≤ n ∧ u = .int .i64 i ∧ v = .int .i64 ((xdp (es.take i) : Nat) : Int) ∧ Hid (Below w.heap.size w W)) (fun _ u _ => n - (intOf u).toNat)
  case atStart => exact ⟨0, by omega, rfl, by simp [xdp], Below.refl _ _⟩
  case round =>
    obtain ⟨i, hi, rfl, rfl, hbw⟩ := hrel
    by_cases hlt : i < n
    · have hlt' : (i : Int) < n := by omega
      obtain ⟨ad, e, rfl, he, A1, c1, h0, h1, h2, h3, h4, h5, h6, hx1⟩ := (hX.out.step hbw.out).el (i := i) (by rw [← HN.out]; exact hlt)
      have ht := xdp_take he
      have hsz0 := xsz_take he
      have hsz1 := hTL.out (i + 1)
      have hb1 := Lib.hid (bnew5 wr (.cells #[.int .i64 e.k, .int .i64 e.n, .string ⟨e.x.toArray⟩, .int .i64 e.o, .slice A1 e.gs.length c1, .int .i64 e.l, .int .i64 e.c] 66))
      have hq := astXdepth1 e (by omega) (IH.out (xsz e.gs) (by omega) e.gs (Nat.le_refl _) (by omega)) A1 c1 _ (hx1.step hb1.out)
      clear hsz0 hsz1
      have hsz := xsz_take he
      have ht2 := hTL.out (i + 1)
      obtain ⟨a, ha⟩ : ∃ a, a = xdp (es.take i) := ⟨_, rfl⟩
      obtain ⟨q, hq0⟩ : ∃ q, q = 1 + xdp e.gs := ⟨_, rfl⟩
      obtain ⟨z, hz⟩ : ∃ z, z = max a q := ⟨_, rfl⟩
      rw [← ha, ← hq0] at ht
      rw [← ha]
      rw [← hq0] at hq
      have HT := Lib.hid ht
      have HQ := Lib.hid hz
      have gg : (if a < q then (q : Int) else (a : Int)) = (z : Int) := by split <;> omega
      clear ht ht2 ha hq0 hz hsz
      unfold xval at hq
      clear he hx1
      generalize e.gs.length = m1 at *
      go_wp2_with fail
      refine hq.mono ?_
      rintro v1 w1 ⟨rfl, hw1⟩
      go_wp2_with fail
      exact ⟨⟨i + 1, by omega, by go_num, by rw [HT.out, ← HQ.out], bth5 (bth5 hbw.out hb1.out) hw1⟩, by simp [intOf]; omega⟩
    · obtain rfl : i = n := by omega
      have hlt' : ¬ (i : Int) < i := by omega
      rw [hV.out]
      go_wp2_with fail
      go_ret
      exact ⟨rfl, hbw.out⟩

/-- What greatest answers over a row. -/
def GreSC (l : List SV) : Prop := ∀ (A : Option Addr) (c : Nat) (w : World), SR w A l → Calls Tryd.prog 65 #[.slice A l.length c, .func (.func 66) #[] #[]] w fun e w' => e = .returned (.int .i64 ((sdp l : Nat) : Int)) ∧ Below w.heap.size w w'

set_option maxHeartbeats 4000000 in
theorem astSdepth1 (e : SV) (hN : xsz e.es + ssz e.ts + ssz e.us ≤ 4000000) (ih1 : GreSC e.ts) (ih2 : GreSC e.us) (A1 : Option Addr) (c1 : Nat) (A2 : Option Addr) (c2 : Nat) (A3 : Option Addr) (c3 : Nat) (w : World) (hx1 : XR w A1 e.es) (hx2 : SR w A2 e.ts) (hx3 : SR w A3 e.us) : Calls Tryd.prog 66 #[sval e A1 c1 A2 c2 A3 c3] w fun v w' => v = .returned (.int .i64 ((1 + max (max (xdp e.es) (sdp e.ts)) (sdp e.us) : Nat) : Int)) ∧ Below w.heap.size w w' := by
  have k0 := Lib.hid ((KS.new (c1 := c1) (c2 := c2) (c3 := c3) w e hx1 hx2 hx3).step (Below.refl _ _).drew)
  have s0 := k0.out.rows
  have qx := astGreX (xsz e.es) e.es (Nat.le_refl _) (by omega) A1 c1 _ k0.out.x
  have q1 := Lib.hid (fun W h => ih1 A2 c2 W h)
  have q2 := Lib.hid (fun W h => ih2 A3 c3 W h)
  obtain ⟨b1, hb1⟩ : ∃ b1, b1 = xdp e.es := ⟨_, rfl⟩
  obtain ⟨b2, hb2⟩ : ∃ b2, b2 = sdp e.ts := ⟨_, rfl⟩
  obtain ⟨b3, hb3⟩ : ∃ b3, b3 = sdp e.us := ⟨_, rfl⟩
  have l1 : b1 ≤ 4000000 := by have := xdp_le e.es; omega
  have l2 : b2 ≤ 4000000 := by have := sdp_le e.ts; omega
  have l3 : b3 ≤ 4000000 := by have := sdp_le e.us; omega
  rw [← hb1] at qx
  rw [← hb2] at q1
  rw [← hb3] at q2
  rw [← hb1, ← hb2, ← hb3]
  clear hx1 hx2 hx3 ih1 ih2 hb1 hb2 hb3 hN
  unfold sval
  go_enter Tryd.func66, Tryd.ntmps66
  go_wp2_with fail
  obtain ⟨m1, hm1⟩ : ∃ m1, m1 = max b1 b2 := ⟨_, rfl⟩
  obtain ⟨m2, hm2⟩ : ∃ m2, m2 = max m1 b3 := ⟨_, rfl⟩
  have g1 : (if b1 < b2 then (b2 : Int) else (b1 : Int)) = (m1 : Int) := by split <;> omega
  have g2 : (if m1 < b3 then (b3 : Int) else (m1 : Int)) = (m2 : Int) := by split <;> omega
  have h1 : IntKind.i64.wrap (1 + (m2 : Int)) = 1 + (m2 : Int) := wrap_small _ (by omega) (by omega)
  have HM := Lib.hid (And.intro hm1 hm2)
  clear hm1 hm2
  go_region_held3 (fun w' => w'.cell? ⟨w.heap.size, 2, none⟩ = some (.slice A1 e.es.length c1) ∧ w'.cell? ⟨w.heap.size, 3, none⟩ = some (.slice A2 e.ts.length c2) ∧ w'.cell? ⟨w.heap.size, 4, none⟩ = some (.slice A3 e.us.length c3)) (first | with_reducible exact s0 | with_reducible exact s1 | with_reducible exact s2 | with_reducible exact s3)
    (first
      | (go_at_call 95
         with_reducible refine qx.mono ?_
         rintro e1 w1 ⟨rfl, hw1⟩
         have k1 := Lib.hid (k0.out.step hw1)
         have s1 := k1.out.rows
         have p1 := q1.out w1 k1.out.t)
      | (go_at_call 65
         with_reducible refine p1.mono ?_
         rintro e1 w2 ⟨rfl, hw2⟩
         have k2 := Lib.hid (k1.out.step hw2)
         have s2 := k2.out.rows
         have q3 := q2.out w2 k2.out.u)
      | (go_at_call 65
         with_reducible refine q3.mono ?_
         rintro e1 w3 ⟨rfl, hw3⟩
         have k3 := Lib.hid (k2.out.step hw3)
         have s3 := k3.out.rows))
  go_wp2_with fail
  go_ret
  exact ⟨by rw [show ((1 + max (max b1 b2) b3 : Nat) : Int) = 1 + (m2 : Int) by have := HM.out; omega]; rfl, k3.out.b⟩

set_option maxHeartbeats 2000000 in
theorem astGreS (N : Nat) : ∀ (es : List SV), ssz es ≤ N → N ≤ 4000000 → GreSC es := by
  induction N using Nat.strongRecOn with
  | ind N ih =>
  intro es hN hNN A c w hx
  have hlen := ssz_len es
  have hV : Hid (sdp (es.take es.length) = sdp es) := by show sdp (es.take es.length) = sdp es; rw [List.take_length]
  have hTL := Lib.hid (ssz_take_le es)
  obtain ⟨n, hn⟩ : ∃ n, n = es.length := ⟨_, rfl⟩
  have hX := Lib.hid hx
  rw [← hn]
  rw [← hn] at hV
  rw [← hn] at hlen
  have HN := Lib.hid hn
  have IH := Lib.hid ih
  clear hn hx ih
  go_enter Tryd.func65, Tryd.ntmps65
  go_wp2_with fail
  go_loopw [5, 10] (fun v u W => ∃ i : Nat, i ≤ n ∧ u = .int .i64 i ∧ v = .int .i64 ((sdp (es.take i) : Nat) : Int) ∧ Hid (Below w.heap.size w W)) (fun _ u _ => n - (intOf u).toNat)
  case atStart => exact ⟨0, by omega, rfl, by simp [sdp], Below.refl _ _⟩
  case round =>
    obtain ⟨i, hi, rfl, rfl, hbw⟩ := hrel
    by_cases hlt : i < n
    · have hlt' : (i : Int) < n := by omega
      obtain ⟨ad, e, rfl, he, A1, c1, A2, c2, A3, c3, h0, h1, h2, h3, h4, h5, h6, hx1, hx2, hx3⟩ := (hX.out.step hbw.out).el (i := i) (by rw [← HN.out]; exact hlt)
      have ht := sdp_take he
      have hsz0 := ssz_take he
      have hsz1 := hTL.out (i + 1)
      have hb1 := Lib.hid (bnew5 wr (.cells #[.int .i64 e.k, .string ⟨e.x.toArray⟩, .slice A1 e.es.length c1, .slice A2 e.ts.length c2, .slice A3 e.us.length c3, .int .i64 e.l, .int .i64 e.c] 62))
      have hq := astSdepth1 e (by omega) (IH.out (ssz e.ts) (by omega) e.ts (Nat.le_refl _) (by omega)) (IH.out (ssz e.us) (by omega) e.us (Nat.le_refl _) (by omega)) A1 c1 A2 c2 A3 c3 _ (hx1.step hb1.out) (hx2.step hb1.out) (hx3.step hb1.out)
      clear hsz0 hsz1
      have hsz := ssz_take he
      have ht2 := hTL.out (i + 1)
      obtain ⟨a, ha⟩ : ∃ a, a = sdp (es.take i) := ⟨_, rfl⟩
      obtain ⟨q, hq0⟩ : ∃ q, q = 1 + max (max (xdp e.es) (sdp e.ts)) (sdp e.us) := ⟨_, rfl⟩
      obtain ⟨z, hz⟩ : ∃ z, z = max a q := ⟨_, rfl⟩
      rw [← ha, ← hq0] at ht
      rw [← ha]
      rw [← hq0] at hq
      have HT := Lib.hid ht
      have HQ := Lib.hid hz
      have gg : (if a < q then (q : Int) else (a : Int)) = (z : Int) := by split <;> omega
      clear ht ht2 ha hq0 hz hsz
      unfold sval at hq
      clear he hx1 hx2 hx3
      generalize e.es.length = m1 at *
      generalize e.ts.length = m2 at *
      generalize e.us.length = m3 at *
      go_wp2_with fail
      refine hq.mono ?_
      rintro v1 w1 ⟨rfl, hw1⟩
      go_wp2_with fail
      exact ⟨⟨i + 1, by omega, by go_num, by rw [HT.out, ← HQ.out], bth5 (bth5 hbw.out hb1.out) hw1⟩, by simp [intOf]; omega⟩
    · obtain rfl : i = n := by omega
      have hlt' : ¬ (i : Int) < i := by omega
      rw [hV.out]
      go_wp2_with fail
      go_ret
      exact ⟨rfl, hbw.out⟩

/-- What greatest answers over a row. -/
def GreDC (l : List DV) : Prop := ∀ (A : Option Addr) (c : Nat) (w : World), DR w A l → Calls Tryd.prog 63 #[.slice A l.length c, .func (.func 64) #[] #[]] w fun e w' => e = .returned (.int .i64 ((ddp l : Nat) : Int)) ∧ Below w.heap.size w w'

set_option maxHeartbeats 1000000 in
theorem astDdepth1 (e : DV) (hN : ssz e.body ≤ 4000000) (A1 : Option Addr) (c1 : Nat) (A2 : Option Addr) (c2 : Nat) (w : World) (hx2 : SR w A2 e.body) : Calls Tryd.prog 64 #[dval e A1 c1 A2 c2] w fun v w' => v = .returned (.int .i64 ((1 + sdp e.body : Nat) : Int)) ∧ Below w.heap.size w w' := by
  have hq := fun W h => astGreS (ssz e.body) e.body (Nat.le_refl _) hN A2 c2 W h
  have hx3 := Lib.hid hx2
  have hle : sdp e.body ≤ 4000000 := Nat.le_trans (sdp_le _) hN
  obtain ⟨z, hz⟩ : ∃ z, z = sdp e.body := ⟨_, rfl⟩
  rw [← hz] at hq hle
  rw [← hz]
  have h1 : IntKind.i64.wrap (1 + (z : Int)) = 1 + (z : Int) := wrap_small _ (by omega) (by omega)
  have hb := Lib.hid (bnew5 w (.cells #[.int .i64 e.k, .string ⟨e.x.toArray⟩, .int .i64 e.lo, .int .i64 e.hi, .int .i64 e.sz, .slice A1 e.ps.length c1, .slice A2 e.body.length c2, .int .i64 e.l, .int .i64 e.c] 84))
  have hq1 := hq _ (hx3.out.step hb.out)
  clear hx2 hz hq
  unfold dval
  go_enter Tryd.func64, Tryd.ntmps64
  go_wp2_with fail
  refine hq1.mono ?_
  rintro v w1 ⟨rfl, hw1⟩
  go_wp2_with fail
  go_ret
  exact ⟨by congr 2, bth5 hb.out hw1⟩

set_option maxHeartbeats 2000000 in
theorem astGreD (es : List DV) (hNN : dsz es ≤ 4000000) : GreDC es := by
  intro A c w hx
  have hlen := dsz_len es
  have hV : Hid (ddp (es.take es.length) = ddp es) := by show ddp (es.take es.length) = ddp es; rw [List.take_length]
  have hTL := Lib.hid (dsz_take_le es)
  obtain ⟨n, hn⟩ : ∃ n, n = es.length := ⟨_, rfl⟩
  have hX := Lib.hid hx
  rw [← hn]
  rw [← hn] at hV
  rw [← hn] at hlen
  have HN := Lib.hid hn
  clear hn hx
  go_enter Tryd.func63, Tryd.ntmps63
  go_wp2_with fail
  go_loopw [5, 10] (fun v u W => ∃ i : Nat, i ≤ n ∧ u = .int .i64 i ∧ v = .int .i64 ((ddp (es.take i) : Nat) : Int) ∧ Hid (Below w.heap.size w W)) (fun _ u _ => n - (intOf u).toNat)
  case atStart => exact ⟨0, by omega, rfl, by simp [ddp], Below.refl _ _⟩
  case round =>
    obtain ⟨i, hi, rfl, rfl, hbw⟩ := hrel
    by_cases hlt : i < n
    · have hlt' : (i : Int) < n := by omega
      obtain ⟨ad, e, rfl, he, A1, c1, A2, c2, h0, h1, h2, h3, h4, h5, h6, h7, h8, hx1, hx2⟩ := (hX.out.step hbw.out).el (i := i) (by rw [← HN.out]; exact hlt)
      have ht := ddp_take he
      have hsz0 := dsz_take he
      have hsz1 := hTL.out (i + 1)
      have hb1 := Lib.hid (bnew5 wr (.cells #[.int .i64 e.k, .string ⟨e.x.toArray⟩, .int .i64 e.lo, .int .i64 e.hi, .int .i64 e.sz, .slice A1 e.ps.length c1, .slice A2 e.body.length c2, .int .i64 e.l, .int .i64 e.c] 84))
      have hq := astDdepth1 e (by omega) A1 c1 A2 c2 _ (hx2.step hb1.out)
      clear hsz0 hsz1
      have hsz := dsz_take he
      have ht2 := hTL.out (i + 1)
      obtain ⟨a, ha⟩ : ∃ a, a = ddp (es.take i) := ⟨_, rfl⟩
      obtain ⟨q, hq0⟩ : ∃ q, q = 1 + sdp e.body := ⟨_, rfl⟩
      obtain ⟨z, hz⟩ : ∃ z, z = max a q := ⟨_, rfl⟩
      rw [← ha, ← hq0] at ht
      rw [← ha]
      rw [← hq0] at hq
      have HT := Lib.hid ht
      have HQ := Lib.hid hz
      have gg : (if a < q then (q : Int) else (a : Int)) = (z : Int) := by split <;> omega
      clear ht ht2 ha hq0 hz hsz
      unfold dval at hq
      clear he hx1 hx2
      generalize e.ps.length = m1 at *
      generalize e.body.length = m2 at *
      go_wp2_with fail
      refine hq.mono ?_
      rintro v1 w1 ⟨rfl, hw1⟩
      go_wp2_with fail
      exact ⟨⟨i + 1, by omega, by go_num, by rw [HT.out, ← HQ.out], bth5 (bth5 hbw.out hb1.out) hw1⟩, by simp [intOf]; omega⟩
    · obtain rfl : i = n := by omega
      have hlt' : ¬ (i : Int) < i := by omega
      rw [hV.out]
      go_wp2_with fail
      go_ret
      exact ⟨rfl, hbw.out⟩

set_option maxHeartbeats 4000000 in
theorem astDepth6 (ds : List DV) (mn : List SV) (hs : ssz mn + dsz ds ≤ 4000000) (A : Option Addr) (ca : Nat) (B : Option Addr) (cb : Nat) (w : World) (hx : DR w A ds) (hy : SR w B mn) : Calls Tryd.prog 29 #[pval A ds.length ca B mn.length cb] w fun e w' => e = .returned (.int .i64 ((max (sdp mn) (ddp ds) : Nat) : Int)) ∧ Below w.heap.size w w' := by
  unfold pval
  have k0 : Hid (Box (w.alloc (.cells #[.slice A ds.length ca, .slice B mn.length cb] 41)).drew w.heap.size [.slice A ds.length ca, .slice B mn.length cb] ∧ Below w.heap.size w (w.alloc (.cells #[.slice A ds.length ca, .slice B mn.length cb] 41)).drew) := ⟨(Box.new w [.slice A ds.length ca, .slice B mn.length cb] 41).drew, (bnew5 w _).drew⟩
  have s0 := k0.out.1.two
  have q1 := astGreD ds (by omega) A ca _ (hx.step k0.out.2)
  have q2 := Lib.hid (fun W h => astGreS (ssz mn) mn (Nat.le_refl _) (by omega) B cb W h)
  have hY := Lib.hid hy
  have l1 : ddp ds ≤ 4000000 := Nat.le_trans (ddp_le _) (by omega)
  have l2 : sdp mn ≤ 4000000 := Nat.le_trans (sdp_le _) (by omega)
  have hl : sdp mn + ddp ds ≤ 8000000 := by omega
  obtain ⟨b1, hb1⟩ : ∃ b1, b1 = ddp ds := ⟨_, rfl⟩
  obtain ⟨b2, hb2⟩ : ∃ b2, b2 = sdp mn := ⟨_, rfl⟩
  rw [← hb1] at q1 l1 hl
  rw [← hb2] at q2 l2 hl
  rw [← hb1, ← hb2]
  obtain ⟨z, hz⟩ : ∃ z, z = max b2 b1 := ⟨_, rfl⟩
  have HZ := Lib.hid hz
  rw [← hz]
  clear hz
  clear hx hy hb1 hb2 hs
  generalize ds.length = n at *
  go_enter Tryd.func29, Tryd.ntmps29
  go_wp2_with fail
  have gg : (if b1 < b2 then (b2 : Int) else (b1 : Int)) = (z : Int) := by have := HZ.out; split <;> omega
  go_region_held3 (fun w' => w'.cell? ⟨w.heap.size, 0, none⟩ = some (.slice A n ca) ∧ w'.cell? ⟨w.heap.size, 1, none⟩ = some (.slice B mn.length cb)) (first | with_reducible exact s0 | with_reducible exact s1 | with_reducible exact s2)
    (first
      | (go_at_call 63
         with_reducible refine q1.mono ?_
         rintro e1 w1 ⟨rfl, hw1⟩
         have k1 := Lib.hid (And.intro (k0.out.1.step hw1) (bth5 k0.out.2 hw1))
         have s1 := k1.out.1.two
         have p1 := q2.out w1 (hY.out.step k1.out.2))
      | (go_at_call 65
         with_reducible refine p1.mono ?_
         rintro e1 w2 ⟨rfl, hw2⟩
         have k2 := Lib.hid (And.intro (k1.out.1.step hw2) (bth5 k1.out.2 hw2))
         have s2 := k2.out.1.two))
  go_wp2_with fail
  go_ret
  exact ⟨rfl, k2.out.2⟩
end Go.Proofs.YtkmioieanopafaaDoor
