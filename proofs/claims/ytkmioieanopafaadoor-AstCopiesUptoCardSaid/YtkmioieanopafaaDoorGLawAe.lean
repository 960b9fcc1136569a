/- AstCopies, walked. -/
import Derived.Test.YtkmioieanopafaaDoorGLawAf
import Derived.Test.YtkmioieanopafaaDoorGCopC
import Derived.Test.YtkmioieanopafaaDoorAstQ
namespace Go.Proofs.YtkmioieanopafaaDoor
section
open Go.RowKit

set_option maxRecDepth 200000 in
set_option maxHeartbeats 40000000 in
theorem copies_ast (ds : List DV) (mn : List SV) (hs : sbk mn + dbk ds ≤ 4000000) (A : Option Addr) (c : Nat) (B : Option Addr) (d : Nat) (o : Int) (w : World) (hL : LaidA w) (hx : DR w A ds) (hy : SR w B mn) :
    Calls Tryd.prog 5 #[pval A ds.length c B mn.length d, .int .i64 o] w fun e w' => e = .returned (.bool true) ∧ Below w.heap.size w w' := by
  have hz := ssz_bk mn
  have hz' := dsz_bk ds
  have h0 := Lib.hid (fun W hd hy => docsFew ds mn hs A c B d 300 W hd hy)
  have hP := Lib.hid (fun W hd hy => docsProgram ds mn hs A c B d W hd hy)
  have hC := Lib.hid (fun W hd hy => astCopy ds mn hs A c B d W hd hy)
  have h1 := Lib.hid (fun C1 e1 C2 e2 W h1 h2 h3 h4 => astSame6 ds ds mn mn (by omega) A c B d C1 e1 C2 e2 W h1 h2 h3 h4)
  have h2 := Lib.hid (fun C1 e1 C2 e2 W l h1 h2 => astRight6 ds mn hs C1 e1 C2 e2 W l h1 h2)
  have h3 := Lib.hid (fun C1 e1 C2 e2 W h1 h2 => astSize6 ds mn (by omega) C1 e1 C2 e2 W h1 h2)
  have h4 := Lib.hid (fun C1 e1 C2 e2 W h1 h2 => astDepth6 ds mn (by omega) C1 e1 C2 e2 W h1 h2)
  have hS := Lib.hid (fun C1 e1 C2 e2 lo m1 hi W h1 h2 h3 h4 h5 => spoilP ds mn hs lo m1 hi C1 e1 C2 e2 W h1 h2 h3 h4 h5)
  have h5 := Lib.hid (fun C1 e1 C2 e2 C3 e3 C4 e4 W h1 h2 h3 h4 => refSame6 ds ds mn mn (by omega) C1 e1 C2 e2 C3 e3 C4 e4 W h1 h2 h3 h4)
  have h6 := Lib.hid (fun W h => astReads mn B d W (by omega) h)
  have h7 := Lib.hid (fun W h => astWrites mn B d W (by omega) h)
  have h8 := Lib.hid (fun W h => astCalls mn B d W (by omega) h)
  have hWk := Lib.hid (fun W (h : LaidA W) => works_ast W h.words)
  rw [same_refl6] at h1 h5
  have hgt : ((max (sdp mn) (ddp ds) : Nat) : Int) ≤ ((ssz mn + dsz ds : Nat) : Int) := by
    have e1 := sdp_le mn
    have e2 := ddp_le ds
    omega
  have hf0 := flN_len 0 mn
  have hf1 := flN_len 1 mn
  have hf2 := flN_len 2 mn
  have hg0 := nmN_len 0 mn
  have hg1 := nmN_len 1 mn
  have hg2 := nmN_len 2 mn
  have hml : mn.length ≤ sbk mn := Nat.le_trans (ssz_len mn) hz
  obtain ⟨n, hn⟩ : ∃ n, n = ds.length := ⟨_, rfl⟩
  obtain ⟨m, hm⟩ : ∃ n, n = mn.length := ⟨_, rfl⟩
  unfold pval at *
  rw [← hn, ← hm] at h0 hP hC h1 h2 h3 h4 hS h5 ⊢
  rw [← hm] at h6 h7 h8 hml
  generalize (rgd ds && rgs mn) = vr at *
  generalize ssz mn + dsz ds = vs at *
  generalize max (sdp mn) (ddp ds) = vd at *
  have hgt1 : ¬ (vs : Int) < (vd : Int) := by omega
  have HM := Lib.hid hm
  have HF0 := Lib.hid hf0
  have HF1 := Lib.hid hf1
  have HF2 := Lib.hid hf2
  have K0 := Lib.hid (CA.new (n := n) (c := c) (m := m) (d := d) hL hx hy 41)
  clear hn hm hf0 hf1 hf2 hL hx hy hz hz' hgt
  go_enter Tryd.func5, Tryd.ntmps5
  go_wp2_with fail
  generalize w.alloc (.cells #[.slice A n c, .slice B m d] 41) = W0 at *
  refine (h0.out W0 K0.out.dp K0.out.sp).mono ?_
  rintro e w1 ⟨⟨b1, rfl⟩, hb1⟩
  have K1 := Lib.hid (K0.out.step hb1)
  have s1 := K1.out.cells
  clear K0 hb1 h0
  cases b1 with
  | false =>
    go_wp2_with fail
    refine (hWk.out _ K1.out.l).mono ?_
    rintro e w2 ⟨rfl, hb2⟩
    have hb2 := Lib.hid (bth5 K1.out.b hb2)
    go_wp2_with fail
    go_ret
    first | exact ⟨rfl, hb2.out⟩ | exact hb2.out
  | true =>
    go_wp2_with fail
    refine (hP.out w1 K1.out.dp K1.out.sp).mono ?_
    rintro e w2 ⟨B1, d1, B2, d2, rfl, y1, y2, hb2⟩
    have hbn := bnew5 w2 (.cells #[.slice B1 n d1, .slice B2 m d2] 46)
    have K2 : Hid (CR w A n c B m d ds mn w2.heap.size B1 d1 B2 d2 (w2.alloc (.cells #[.slice B1 n d1, .slice B2 m d2] 46))) := ⟨(K1.out.step hb2).step hbn, Box.new w2 [.slice B1 n d1, .slice B2 m d2] _, (y1.sub (Sub.only _ _)).step hbn, (y2.sub (Sub.only _ _)).step hbn⟩
    have s2 := K2.out.cells
    clear s1 K1 hb2 hbn y1 y2
    go_wp2_with fail
    obtain ⟨g5, hg5⟩ : ∃ g, g = w2.heap.size := ⟨_, rfl⟩
    rw [← hg5] at K2 s2 ⊢
    clear hg5
    generalize w2.alloc (.cells #[.slice B1 n d1, .slice B2 m d2] 46) = W1 at *
    refine (hC.out W1 K2.out.k.dp K2.out.k.sp).mono ?_
    rintro e w3 ⟨C1, e1, C2, e2, m1, rfl, o1, o2, y1, y2, hb3⟩
    have hbn := bnew5 w3 (.cells #[.slice C1 n e1, .slice C2 m e2] 41)
    have K3 : Hid (CC w A n c B m d ds mn W1 w3.heap.size C1 e1 C2 e2 m1 w3.heap.size (w3.alloc (.cells #[.slice C1 n e1, .slice C2 m e2] 41))) := ⟨(K2.out.k.step hb3).step hbn, bth5 hb3 hbn, Box.new w3 [.slice C1 n e1, .slice C2 m e2] _, y1.keep (Kp.of_below hbn (by omega)), y2.keep (Kp.of_below hbn (Nat.le_refl _)), o1, o2, hbn.size⟩
    clear s2 hb3 hbn y1 y2 o1 o2 hC
    go_wp2_with fail
    obtain ⟨g6, hg6⟩ : ∃ g, g = w3.heap.size := ⟨_, rfl⟩
    rw [← hg6] at K3 ⊢
    clear hg6
    generalize w3.alloc (.cells #[.slice C1 n e1, .slice C2 m e2] 41) = W2 at *
    have K4 := Lib.hid (K3.out.step (Below.refl W2.heap.size W2).drew)
    clear K3
    have s4 := K4.out.cells
    go_region_held3 (fun w' => w'.cell? ⟨w.heap.size, 0, none⟩ = some (.slice A n c) ∧ w'.cell? ⟨w.heap.size, 1, none⟩ = some (.slice B m d) ∧ w'.cell? ⟨g6, 0, none⟩ = some (.slice C1 n e1) ∧ w'.cell? ⟨g6, 1, none⟩ = some (.slice C2 m e2)) (first | with_reducible exact s4 | with_reducible exact s5 | with_reducible exact s6 | with_reducible exact s7 | with_reducible exact s8 | with_reducible exact s9 | with_reducible exact s10 | with_reducible exact s11 | with_reducible exact s12 | with_reducible exact s13)
      (first
        | (go_at_call 31
           with_reducible refine (h1.out _ _ _ _ _ K4.out.k.dp K4.out.k.sp K4.out.dc.read K4.out.sc.read).mono ?_
           rintro e V4 ⟨rfl, hb⟩
           have K5 := Lib.hid (K4.out.step hb)
           have s5 := K5.out.cells
           clear hb)
        | (go_at_call 25
           with_reducible refine (h2.out C1 e1 C2 e2 _ K5.out.k.l K5.out.dc.read K5.out.sc.read).mono ?_
           rintro e V5 ⟨rfl, hb⟩
           have K6 := Lib.hid (K5.out.step hb)
           have s6 := K6.out.cells
           clear hb)
        | (go_at_call 25
           with_reducible refine (h2.out A c B d _ K6.out.k.l K6.out.k.dp K6.out.k.sp).mono ?_
           rintro e V6 ⟨rfl, hb⟩
           have K7 := Lib.hid (K6.out.step hb)
           have s7 := K7.out.cells
           clear hb)
        | (go_at_call 27
           with_reducible refine (h3.out C1 e1 C2 e2 _ K7.out.dc.read K7.out.sc.read).mono ?_
           rintro e V7 ⟨rfl, hb⟩
           have K8 := Lib.hid (K7.out.step hb)
           have s8 := K8.out.cells
           clear hb)
        | (go_at_call 27
           with_reducible refine (h3.out A c B d _ K8.out.k.dp K8.out.k.sp).mono ?_
           rintro e V8 ⟨rfl, hb⟩
           have K9 := Lib.hid (K8.out.step hb)
           have s9 := K9.out.cells
           clear hb)
        | (go_at_call 29
           with_reducible refine (h4.out C1 e1 C2 e2 _ K9.out.dc.read K9.out.sc.read).mono ?_
           rintro e V9 ⟨rfl, hb⟩
           have K10 := Lib.hid (K9.out.step hb)
           have s10 := K10.out.cells
           clear hb)
        | (go_at_call 29
           with_reducible refine (h4.out A c B d _ K10.out.k.dp K10.out.k.sp).mono ?_
           rintro e V10 ⟨rfl, hb⟩
           have K11 := Lib.hid (K10.out.step hb)
           have s11 := K11.out.cells
           clear hb)
        | (go_at_call 29
           with_reducible refine (h4.out A c B d _ K11.out.k.dp K11.out.k.sp).mono ?_
           rintro e V11 ⟨rfl, hb⟩
           have K12 := Lib.hid (K11.out.step hb)
           have s12 := K12.out.cells
           clear hb)
        | (go_at_call 27
           with_reducible refine (h3.out A c B d _ K12.out.k.dp K12.out.k.sp).mono ?_
           rintro e V12 ⟨rfl, hb⟩
           have K13 := Lib.hid (K12.out.step hb)
           have s13 := K13.out.cells
           clear hb))
    have K20 := Lib.hid (fun (W : World) (hb : Below W1.heap.size V12 W) => K2.out.step (K13.out.b1.trans hb))
    clear K4 K5 K6 K7 K8 K9 K10 K11 K12 s4 s5 s6 s7 s8 s9 s10 s11 s12 K2 h1 h2 h3 h4
    go_wp2_with fail
    refine (hS.out _ _ _ _ W1.heap.size m1 _ _ K13.out.dc K13.out.sc K13.out.o.1 K13.out.o.2.1 K13.out.o.2.2).mono ?_
    rintro e V13 ⟨⟨v, rfl⟩, hb⟩
    have K21 := Lib.hid ((K20.out _ hb).step (Below.refl V13.heap.size V13).drew)
    have s21 := K21.out.cells
    clear K20 K13 s13 hb hS
    go_wp2_with fail
    go_region_held3 (fun w' => w'.cell? ⟨w.heap.size, 0, none⟩ = some (.slice A n c) ∧ w'.cell? ⟨w.heap.size, 1, none⟩ = some (.slice B m d) ∧ w'.cell? ⟨g5, 0, none⟩ = some (.slice B1 n d1) ∧ w'.cell? ⟨g5, 1, none⟩ = some (.slice B2 m d2)) (first | with_reducible exact s21 | with_reducible exact s22 | with_reducible exact s23)
      (first
        | (go_at_call 24
           with_reducible refine (hP.out _ K21.out.k.dp K21.out.k.sp).mono ?_
           rintro e V21 ⟨B3, d3, B4, d4, rfl, y1, y2, hb⟩
           replace y1 := Lib.hid (y1.sub (Sub.only _ _))
           replace y2 := Lib.hid (y2.sub (Sub.only _ _))
           have K22 := Lib.hid (K21.out.step hb)
           have s22 := K22.out.cells
           clear hb)
        | (go_at_call 32
           with_reducible refine (h5.out _ _ _ _ _ _ _ _ _ y1.out y2.out K22.out.dr K22.out.sr).mono ?_
           rintro e V22 ⟨rfl, hb⟩
           have K23 := Lib.hid (K22.out.step hb)
           have s23 := K23.out.cells
           clear hb))
    have K24 := Lib.hid (K23.out.k.step (Below.refl V22.heap.size V22).drew)
    have s24 := K24.out.cells
    clear K21 K22 K23 s21 s22 s23 hP h5 y1 y2
    go_wp2_with fail
    go_region_held3 (fun w' => w'.cell? ⟨w.heap.size, 0, none⟩ = some (.slice A n c) ∧ w'.cell? ⟨w.heap.size, 1, none⟩ = some (.slice B m d)) (first | with_reducible exact s24 | with_reducible exact s25 | with_reducible exact s26 | with_reducible exact s27)
      (first
        | (go_at_call 35
           with_reducible refine (h6.out _ K24.out.sp).mono ?_
           rintro e V24 ⟨v0, rfl, q1, hb⟩
           obtain ⟨A7, c7, rfl, z7, x7⟩ := NamP.rowc q1
           replace x7 := Lib.hid x7
           replace z7 := Lib.hid z7
           have K25 := Lib.hid (K24.out.step hb)
           have s25 := K25.out.cells
           clear hb q1)
        | (go_at_call 36
           with_reducible refine (h7.out _ K25.out.sp).mono ?_
           rintro e V25 ⟨v1, rfl, q1, hb⟩
           obtain ⟨A8, c8, rfl, z8, x8⟩ := NamP.rowc q1
           replace x7 := Lib.hid (x7.out.below hb)
           replace x8 := Lib.hid x8
           replace z8 := Lib.hid z8
           have K26 := Lib.hid (K25.out.step hb)
           have s26 := K26.out.cells
           clear hb q1)
        | (go_at_call 37
           with_reducible refine (h8.out _ K26.out.sp).mono ?_
           rintro e V26 ⟨v2, rfl, q1, hb⟩
           obtain ⟨A9, c9, rfl, z9, x9⟩ := NamP.rowc q1
           replace x7 := Lib.hid (x7.out.below hb)
           replace x8 := Lib.hid (x8.out.below hb)
           replace x9 := Lib.hid x9
           replace z9 := Lib.hid z9
           have K27 := Lib.hid (K26.out.step hb)
           have s27 := K27.out.cells
           clear hb q1))
    clear K24 K25 K26 s24 s25 s26 h6 h7 h8
    go_wp2_with fail
    generalize hl0 : nmN 0 mn = l0 at *
    generalize hl1 : nmN 1 mn = l1 at *
    generalize hl2 : nmN 2 mn = l2 at *
    have HL0 : Hid (∀ t, t ∈ l0 ↔ t ∈ flN 0 mn mn.length) := fun t => by rw [← hl0, flN_in]
    have HL1 : Hid (∀ t, t ∈ l1 ↔ t ∈ flN 1 mn mn.length) := fun t => by rw [← hl1, flN_in]
    have HL2 : Hid (∀ t, t ∈ l2 ↔ t ∈ flN 2 mn mn.length) := fun t => by rw [← hl2, flN_in]
    have HD0 : Hid l0.Nodup := by show l0.Nodup; rw [← hl0]; exact ddN_nodup _ _
    have HD1 : Hid l1.Nodup := by show l1.Nodup; rw [← hl1]; exact ddN_nodup _ _
    have HD2 : Hid l2.Nodup := by show l2.Nodup; rw [← hl2]; exact ddN_nodup _ _
    rw [← HM.out] at HL0 HL1 HL2
    clear hl0 hl1 hl2
    obtain ⟨n7, hn7⟩ : ∃ k, k = l0.length := ⟨_, rfl⟩
    obtain ⟨n8, hn8⟩ : ∃ k, k = l1.length := ⟨_, rfl⟩
    obtain ⟨n9, hn9⟩ : ∃ k, k = l2.length := ⟨_, rfl⟩
    rw [← hn7] at x7 z7 hg0 ⊢
    rw [← hn8] at x8 z8 hg1 ⊢
    rw [← hn9] at x9 z9 hg2 ⊢
    clear hn7 hn8 hn9
    go_loopw [10, 11, 12, 13] (fun va vb vd u W => ∃ i : Nat, i ≤ m ∧ u = .int .i64 i ∧ Hid (G3 V26 va vb vd (flN 0 mn i) (flN 1 mn i) (flN 2 mn i) W)) (fun _ _ _ u _ => m - (intOf u).toNat)
    case atStart => exact ⟨0, by omega, rfl, by show G3 _ _ _ _ _ _ _ _; simpa [flN] using G3.start V26⟩
    case round =>
      obtain ⟨i, hi, rfl, hg⟩ := hrel
      by_cases hlt : i < m
      · have hlt' : (i : Int) < m := by omega
        have sr := (K27.out.step hg.out.l).cells.2
        obtain ⟨ad, s, rfl, hse, hsv⟩ := K27.out.sp.el (i := i) (by rw [← HM.out]; exact hlt)
        have hsb := sbk_get hse
        have E0 := Lib.hid (flN_succ (wt := 0) hse)
        have E1 := Lib.hid (flN_succ (wt := 1) hse)
        have E2 := Lib.hid (flN_succ (wt := 2) hse)
        have L0 := HF0.out (i + 1)
        have L1 := HF1.out (i + 1)
        have L2 := HF2.out (i + 1)
        rw [E0.out, List.length_append] at L0
        rw [E1.out, List.length_append] at L1
        rw [E2.out, List.length_append] at L2
        cases s with
        | mk k x es ts us ln cc =>
        obtain ⟨A1, a1, A2, a2, A3, a3, y0, y1, y2, y3, y4, y5, y6, hx1, hx2, hx3⟩ := hsv
        simp only [SV.k, SV.x, SV.es, SV.ts, SV.us, SV.l, SV.c] at y0 y1 y2 y3 y4 y5 y6 hx1 hx2 hx3
        have hs1 : sbk [.mk k x es ts us ln cc] ≤ 4000000 := by simp only [sbk]; omega
        have HN0 := Lib.hid (fun W (hb : Below V26.heap.size V26 W) => astReads [.mk k x es ts us ln cc] _ 1 _ hs1 (oneS (W := W) (T := 62) (k := k) (x := x) (l := ln) (cc := cc) (c1 := a1) (c2 := a2) (c3 := a3) (hx1.sub (Sub.below hb)) (hx2.step hb) (hx3.step hb)))
        have HN1 := Lib.hid (fun W (hb : Below V26.heap.size V26 W) => astWrites [.mk k x es ts us ln cc] _ 1 _ hs1 (oneS (W := W) (T := 62) (k := k) (x := x) (l := ln) (cc := cc) (c1 := a1) (c2 := a2) (c3 := a3) (hx1.sub (Sub.below hb)) (hx2.step hb) (hx3.step hb)))
        have HN2 := Lib.hid (fun W (hb : Below V26.heap.size V26 W) => astCalls [.mk k x es ts us ln cc] _ 1 _ hs1 (oneS (W := W) (T := 62) (k := k) (x := x) (l := ln) (cc := cc) (c1 := a1) (c2 := a2) (c3 := a3) (hx1.sub (Sub.below hb)) (hx2.step hb) (hx3.step hb)))
        have HY : Hid (∀ W, Below V26.heap.size V26 W → W.cell? (ad.add (i * 7)) = some (.int .i64 k) ∧ W.cell? ⟨(ad.add (i * 7)).block, (ad.add (i * 7)).off + 1, none⟩ = some (.string ⟨x.toArray⟩) ∧ W.cell? ⟨(ad.add (i * 7)).block, (ad.add (i * 7)).off + 2, none⟩ = some (.slice A1 es.length a1) ∧ W.cell? ⟨(ad.add (i * 7)).block, (ad.add (i * 7)).off + 3, none⟩ = some (.slice A2 ts.length a2) ∧ W.cell? ⟨(ad.add (i * 7)).block, (ad.add (i * 7)).off + 4, none⟩ = some (.slice A3 us.length a3) ∧ W.cell? ⟨(ad.add (i * 7)).block, (ad.add (i * 7)).off + 5, none⟩ = some (.int .i64 ln) ∧ W.cell? ⟨(ad.add (i * 7)).block, (ad.add (i * 7)).off + 6, none⟩ = some (.int .i64 cc)) := fun W hb => ⟨cst5 hb y0, cst5 hb y1, cst5 hb y2, cst5 hb y3, cst5 hb y4, cst5 hb y5, cst5 hb y6⟩
        simp only [List.length_cons, List.length_nil, Nat.zero_add] at HN0 HN1 HN2
        clear y0 y1 y2 y3 y4 y5 y6 hx1 hx2 hx3 hse hs1 hsb
        generalize nmN 0 [.mk k x es ts us ln cc] = p0 at *
        generalize nmN 1 [.mk k x es ts us ln cc] = p1 at *
        generalize nmN 2 [.mk k x es ts us ln cc] = p2 at *
        generalize es.length = n1 at *
        generalize ts.length = n2 at *
        generalize us.length = n3 at *
        generalize (⟨x.toArray⟩ : ByteArray) = xs at *
        have s0 := HY.out wr hg.out.l
        go_wp2_with fail
        refine (HN0.out wr hg.out.l).mono ?_
        rintro e u0 ⟨r0, rfl, q1, hb1⟩
        obtain ⟨Q0, f0, rfl, -, y0⟩ := NamP.rowc q1
        obtain ⟨va0, W0', hrun, g0'⟩ := (hg.out.step (bth5 (bnew5 _ _) hb1)).push y0 (c := f0) (by omega)
        have G0 := Lib.hid g0'.rot
        replace sr := (K27.out.step G0.out.l).cells.2
        replace s0 := HY.out W0' G0.out.l
        clear q1 hb1 y0 g0' HN0
        go_wp2_with (first
          | (at_builtin
             refine wpList_append_run rfl (.tmp 80) (.tmp 87) _ rfl _ _ _ W0' rfl rfl hrun ?_
             clear hrun))
        refine (HN1.out W0' G0.out.l).mono ?_
        rintro e u1 ⟨r1, rfl, q1, hb1⟩
        obtain ⟨Q1, f1, rfl, -, y1⟩ := NamP.rowc q1
        obtain ⟨va1, W1', hrun, g1'⟩ := (G0.out.step (bth5 (bnew5 _ _) hb1)).push y1 (c := f1) (by omega)
        have G1 := Lib.hid g1'.rot
        replace sr := (K27.out.step G1.out.l).cells.2
        replace s0 := HY.out W1' G1.out.l
        clear q1 hb1 y1 g1' HN1
        go_wp2_with (first
          | (at_builtin
             refine wpList_append_run rfl (.tmp 89) (.tmp 96) _ rfl _ _ _ W1' rfl rfl hrun ?_
             clear hrun))
        refine (HN2.out W1' G1.out.l).mono ?_
        rintro e u2 ⟨r2, rfl, q1, hb1⟩
        obtain ⟨Q2, f2, rfl, -, y2⟩ := NamP.rowc q1
        obtain ⟨va2, W2', hrun, g2'⟩ := (G1.out.step (bth5 (bnew5 _ _) hb1)).push y2 (c := f2) (by omega)
        have G2 := Lib.hid g2'.rot
        replace sr := (K27.out.step G2.out.l).cells.2
        replace s0 := HY.out W2' G2.out.l
        clear q1 hb1 y2 g2' HN2
        go_wp2_with (first
          | (at_builtin
             refine wpList_append_run rfl (.tmp 98) (.tmp 105) _ rfl _ _ _ W2' rfl rfl hrun ?_
             clear hrun))
        exact ⟨⟨i + 1, by omega, by go_num, by rw [E0.out, E1.out, E2.out]; exact G2.out⟩, by simp [intOf]; omega⟩
      · obtain rfl : i = m := by omega
        have hlt' : ¬ (i : Int) < i := by omega
        have sr := (K27.out.step hg.out.l).cells.2
        have T0 : Hid (Below w.heap.size w wr ∧ LaidA wr) := ⟨bth5 K27.out.b hg.out.l, K27.out.l.step hg.out.l⟩
        obtain ⟨A10, c10, rfl, -, x10⟩ := NamP.rowc hg.out.a
        obtain ⟨A11, c11, rfl, -, x11⟩ := NamP.rowc hg.out.b
        obtain ⟨A12, c12, rfl, -, x12⟩ := NamP.rowc hg.out.d
        have R0 : Hid (R6 A7 n7 l0 A8 n8 l1 A9 n9 l2 A10 (flN 0 mn i).length (flN 0 mn i) A11 (flN 1 mn i).length (flN 1 mn i) A12 (flN 2 mn i).length (flN 2 mn i) wr) := ⟨x7.out.below hg.out.l, x8.out.below hg.out.l, x9.out.below hg.out.l, x10, x11, x12⟩
        have M0 := HF0.out i
        have M1 := HF1.out i
        have M2 := HF2.out i
        clear x7 x8 x9 x10 x11 x12 hg K27 s27 HF0 HF1 HF2 hi hlt
        generalize flN 0 mn i = fa at *
        generalize flN 1 mn i = fb at *
        generalize flN 2 mn i = fd at *
        obtain ⟨n10, hn10⟩ : ∃ k, k = fa.length := ⟨_, rfl⟩
        obtain ⟨n11, hn11⟩ : ∃ k, k = fb.length := ⟨_, rfl⟩
        obtain ⟨n12, hn12⟩ : ∃ k, k = fd.length := ⟨_, rfl⟩
        rw [← hn10] at R0 M0 ⊢
        rw [← hn11] at R0 M1 ⊢
        rw [← hn12] at R0 M2 ⊢
        clear hn10 hn11 hn12
        have ea0 : (fa.all fun t => l0.contains t) = true := by
          rw [List.all_eq_true]
          intro t ht
          rw [List.contains_iff_mem]
          exact (HL0.out t).2 ht
        have wi0 := Lib.hid (fun W (h : R6 A7 n7 l0 A8 n8 l1 A9 n9 l2 A10 n10 fa A11 n11 fb A12 n12 fd W) => lawWithin6 (c := c7) (d := c10) h.x7 h.x10 z7.out (by omega) (by omega) (fun t ht => (HL0.out t).1 ht) HD0.out)
        have al0 := Lib.hid (fun W (h : R6 A7 n7 l0 A8 n8 l1 A9 n9 l2 A10 n10 fa A11 n11 fb A12 n12 fd W) => lawAll6 (c := c10) (d := c7) h.x10 h.x7 (by omega) (by omega))
        rw [ea0] at al0
        clear ea0
        have ea1 : (fb.all fun t => l1.contains t) = true := by
          rw [List.all_eq_true]
          intro t ht
          rw [List.contains_iff_mem]
          exact (HL1.out t).2 ht
        have wi1 := Lib.hid (fun W (h : R6 A7 n7 l0 A8 n8 l1 A9 n9 l2 A10 n10 fa A11 n11 fb A12 n12 fd W) => lawWithin6 (c := c8) (d := c11) h.x8 h.x11 z8.out (by omega) (by omega) (fun t ht => (HL1.out t).1 ht) HD1.out)
        have al1 := Lib.hid (fun W (h : R6 A7 n7 l0 A8 n8 l1 A9 n9 l2 A10 n10 fa A11 n11 fb A12 n12 fd W) => lawAll6 (c := c11) (d := c8) h.x11 h.x8 (by omega) (by omega))
        rw [ea1] at al1
        clear ea1
        have ea2 : (fd.all fun t => l2.contains t) = true := by
          rw [List.all_eq_true]
          intro t ht
          rw [List.contains_iff_mem]
          exact (HL2.out t).2 ht
        have wi2 := Lib.hid (fun W (h : R6 A7 n7 l0 A8 n8 l1 A9 n9 l2 A10 n10 fa A11 n11 fb A12 n12 fd W) => lawWithin6 (c := c9) (d := c12) h.x9 h.x12 z9.out (by omega) (by omega) (fun t ht => (HL2.out t).1 ht) HD2.out)
        have al2 := Lib.hid (fun W (h : R6 A7 n7 l0 A8 n8 l1 A9 n9 l2 A10 n10 fa A11 n11 fb A12 n12 fd W) => lawAll6 (c := c12) (d := c9) h.x12 h.x9 (by omega) (by omega))
        rw [ea2] at al2
        clear ea2
        have hop := op6_back _ (pick6_lt o).1 (pick6_lt o).2
        have hpk := Lib.hid (fun W => kitPick21 o W)
        generalize pick6 o 21 = q at *
        have t1 := Lib.hid (fun W (l : LaidA W) => astText q W l.words)
        have t2 := Lib.hid (fun W => astOne q W)
        have t3 := Lib.hid (fun W (l : LaidA W) => astOperator (txt6 q) (one6 q) W l.words)
        rw [hop] at t3
        clear hop
        generalize one6 q = oq at *
        generalize (⟨(txt6 q).toArray⟩ : ByteArray) = tq at *
        have hqq : (q == q) = true := by simp
        clear HL0 HL1 HL2 HD0 HD1 HD2 z7 z8 z9
        go_wp2_with fail
        refine (wi0.out _ R0.out).mono ?_
        rintro e V31 ⟨rfl, hb⟩
        have R1 := Lib.hid (R0.out.step hb)
        have T1 : Hid (Below w.heap.size w V31 ∧ LaidA V31) := ⟨bth5 T0.out.1 hb, T0.out.2.step hb⟩
        clear hb R0 T0 wi0
        go_wp2_with fail
        refine (wi1.out _ R1.out).mono ?_
        rintro e V32 ⟨rfl, hb⟩
        have R2 := Lib.hid (R1.out.step hb)
        have T2 : Hid (Below w.heap.size w V32 ∧ LaidA V32) := ⟨bth5 T1.out.1 hb, T1.out.2.step hb⟩
        clear hb R1 T1 wi1
        go_wp2_with fail
        refine (wi2.out _ R2.out).mono ?_
        rintro e V33 ⟨rfl, hb⟩
        have R3 := Lib.hid (R2.out.step hb)
        have T3 : Hid (Below w.heap.size w V33 ∧ LaidA V33) := ⟨bth5 T2.out.1 hb, T2.out.2.step hb⟩
        clear hb R2 T2 wi2
        go_wp2_with fail
        refine (al0.out _ R3.out).mono ?_
        rintro e V ⟨rfl, rfl⟩
        clear al0
        go_wp2_with fail
        refine (al1.out _ R3.out).mono ?_
        rintro e V ⟨rfl, rfl⟩
        clear al1
        go_wp2_with fail
        refine (al2.out _ R3.out).mono ?_
        rintro e V ⟨rfl, rfl⟩
        clear al2
        go_wp2_with fail
        refine (hpk.out _).mono ?_
        rintro e V ⟨rfl, rfl⟩
        clear hpk
        go_wp2_with fail
        refine (t1.out _ T3.out.2).mono ?_
        rintro e V ⟨rfl, rfl⟩
        clear t1
        go_wp2_with fail
        refine (t2.out _).mono ?_
        rintro e V ⟨rfl, rfl⟩
        clear t2
        go_wp2_with fail
        refine (t3.out _ T3.out.2).mono ?_
        rintro e V ⟨rfl, rfl⟩
        clear t3
        go_wp2_with fail
        refine (hWk.out _ T3.out.2).mono ?_
        rintro e V40 ⟨rfl, hb⟩
        have T4 := Lib.hid (bth5 T3.out.1 hb)
        go_wp2_with fail
        go_ret
        first | exact ⟨rfl, T4.out⟩ | exact T4.out
end
end Go.Proofs.YtkmioieanopafaaDoor
