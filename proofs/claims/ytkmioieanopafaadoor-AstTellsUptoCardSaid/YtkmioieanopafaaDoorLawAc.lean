/- AstTells, walked. -/
import Derived.Test.YtkmioieanopafaaDoorDocD
import Derived.Test.YtkmioieanopafaaDoorLawAa
import Derived.Test.YtkmioieanopafaaDoorAstT
import Derived.Test.YtkmioieanopafaaDoorAstU
import Derived.Test.YtkmioieanopafaaDoorAstL
namespace Go.Proofs.YtkmioieanopafaaDoor
open Go.RowKit

/-- What the walk keeps once both have been copied. -/
structure T3 (w : World) (A : Option Addr) (n c : Nat) (B : Option Addr) (m d : Nat) (A' : Option Addr) (n' c' : Nat) (B' : Option Addr) (m' d' : Nat) (ds : List DV) (mn : List SV) (es : List DV) (mm : List SV) (g5 g6 : Nat) (B1 : Option Addr) (d1 : Nat) (B2 : Option Addr) (d2 : Nat) (B3 : Option Addr) (d3 : Nat) (B4 : Option Addr) (d4 : Nat) (W : World) : Prop where
  l : LaidA W
  b : Below w.heap.size w W
  bp : Box W w.heap.size [.slice A n c, .slice B m d]
  bq : Box W (w.heap.size + 1) [.slice A' n' c', .slice B' m' d']
  b5 : Box W g5 [.slice B1 n d1, .slice B2 m d2]
  b6 : Box W g6 [.slice B3 n' d3, .slice B4 m' d4]
  dp : DR W A ds
  sp : SR W B mn
  dq : DR W A' es
  sq : SR W B' mm
  dr : DR W B1 ds
  sr : SR W B2 mn
  dx : DR W B3 es
  sx : SR W B4 mm
section
variable {w : World} {A : Option Addr} {n c : Nat} {B : Option Addr} {m d : Nat} {A' : Option Addr} {n' c' : Nat} {B' : Option Addr} {m' d' : Nat} {ds es : List DV} {mn mm : List SV} {g5 g6 : Nat} {B1 : Option Addr} {d1 : Nat} {B2 : Option Addr} {d2 : Nat} {B3 : Option Addr} {d3 : Nat} {B4 : Option Addr} {d4 : Nat} {W W' : World}
theorem T3.step (h : T3 w A n c B m d A' n' c' B' m' d' ds mn es mm g5 g6 B1 d1 B2 d2 B3 d3 B4 d4 W) (hb : Below W.heap.size W W') : T3 w A n c B m d A' n' c' B' m' d' ds mn es mm g5 g6 B1 d1 B2 d2 B3 d3 B4 d4 W' :=
  ⟨h.l.step hb, bth5 h.b hb, h.bp.step hb, h.bq.step hb, h.b5.step hb, h.b6.step hb, h.dp.step hb, h.sp.step hb, h.dq.step hb, h.sq.step hb, h.dr.step hb, h.sr.step hb, h.dx.step hb, h.sx.step hb⟩
theorem T3.cells (h : T3 w A n c B m d A' n' c' B' m' d' ds mn es mm g5 g6 B1 d1 B2 d2 B3 d3 B4 d4 W) : W.cell? ⟨w.heap.size, 0, none⟩ = some (.slice A n c) ∧ W.cell? ⟨w.heap.size, 1, none⟩ = some (.slice B m d) ∧ W.cell? ⟨w.heap.size + 1, 0, none⟩ = some (.slice A' n' c') ∧ W.cell? ⟨w.heap.size + 1, 1, none⟩ = some (.slice B' m' d') ∧ W.cell? ⟨g5, 0, none⟩ = some (.slice B1 n d1) ∧ W.cell? ⟨g5, 1, none⟩ = some (.slice B2 m d2) ∧ W.cell? ⟨g6, 0, none⟩ = some (.slice B3 n' d3) ∧ W.cell? ⟨g6, 1, none⟩ = some (.slice B4 m' d4) :=
  ⟨(h.bp 0 _ rfl).1, (h.bp 1 _ rfl).1, (h.bq 0 _ rfl).1, (h.bq 1 _ rfl).1, (h.b5 0 _ rfl).1, (h.b5 1 _ rfl).1, (h.b6 0 _ rfl).1, (h.b6 1 _ rfl).1⟩
/-- The copies are stored. -/
theorem T3.made {W0 : World} {l1 h1 l3 h3 : Nat} (hL : LaidA w) (hx : DR w A ds) (hy : SR w B mn) (hx' : DR w A' es) (hy' : SR w B' mm) (HB0 : Below w.heap.size w W0) (HB : Below W0.heap.size W0 W)
    (HP : Box W w.heap.size [.slice A n c, .slice B m d]) (HQ : Box W (w.heap.size + 1) [.slice A' n' c', .slice B' m' d'])
    (k1 : DR (only W (frI l1 h1)) B1 ds) (k2 : SR (only W (frI l1 h1)) B2 mn) (k3 : DR (only W (frI l3 h3)) B3 es) (k4 : SR (only W (frI l3 h3)) B4 mm)
    (X5 : Box W g5 [.slice none 0 0, .slice none 0 0]) (X6 : Box W g6 [.slice none 0 0, .slice none 0 0])
    (ho : w.heap.size + 2 ≤ g5 ∧ w.heap.size + 2 ≤ g6 ∧ g5 ≠ g6 ∧ (g5 < l1 ∨ h1 ≤ g5) ∧ (g5 < l3 ∨ h3 ≤ g5) ∧ (g6 < l1 ∨ h1 ≤ g6) ∧ (g6 < l3 ∨ h3 ≤ g6)) :
    T3 w A n c B m d A' n' c' B' m' d' ds mn es mm g5 g6 B1 d1 B2 d2 B3 d3 B4 d4 ((((W.setCell ⟨g5, 0, none⟩ (.slice B1 n d1)).setCell ⟨g5, 1, none⟩ (.slice B2 m d2)).setCell ⟨g6, 0, none⟩ (.slice B3 n' d3)).setCell ⟨g6, 1, none⟩ (.slice B4 m' d4)) := by
  obtain ⟨o1, o2, o3, o4, o5, o6, o7⟩ := ho
  have hb : Below w.heap.size w ((((W.setCell ⟨g5, 0, none⟩ (.slice B1 n d1)).setCell ⟨g5, 1, none⟩ (.slice B2 m d2)).setCell ⟨g6, 0, none⟩ (.slice B3 n' d3)).setCell ⟨g6, 1, none⟩ (.slice B4 m' d4)) :=
    below_set1 (below_set1 (below_set1 (below_set1 (bth5 HB0 HB) (by omega)) (by omega)) (by omega)) (by omega)
  have far : ∀ {b : Nat} {vs : List Value}, Box W b vs → b ≠ g5 → b ≠ g6 → Box ((((W.setCell ⟨g5, 0, none⟩ (.slice B1 n d1)).setCell ⟨g5, 1, none⟩ (.slice B2 m d2)).setCell ⟨g6, 0, none⟩ (.slice B3 n' d3)).setCell ⟨g6, 1, none⟩ (.slice B4 m' d4)) b vs := fun h e1 e2 => (((h.far (fun e => e1 e.symm) _).far (fun e => e1 e.symm) _).far (fun e => e2 e.symm) _).far (fun e => e2 e.symm) _
  have sb : ∀ {l h : Nat}, (g5 < l ∨ h ≤ g5) → (g6 < l ∨ h ≤ g6) → Sub (only W (frI l h)) ((((W.setCell ⟨g5, 0, none⟩ (.slice B1 n d1)).setCell ⟨g5, 1, none⟩ (.slice B2 m d2)).setCell ⟨g6, 0, none⟩ (.slice B3 n' d3)).setCell ⟨g6, 1, none⟩ (.slice B4 m' d4)) := fun e1 e2 =>
    ((((frI_set W _ e1).trans (frI_set _ _ e1)).trans (frI_set _ _ e2)).trans (frI_set _ _ e2)).trans (Sub.only _ _)
  refine ⟨hL.step hb, hb, far HP (by omega) (by omega), far HQ (by omega) (by omega), ?_, ?_, hx.step hb, hy.step hb, hx'.step hb, hy'.step hb, k1.sub (sb o4 o6), k2.sub (sb o4 o6), k3.sub (sb o5 o7), k4.sub (sb o5 o7)⟩
  · exact (((X5.set 0 _).set 1 _).far (fun e => o3 e.symm) _).far (fun e => o3 e.symm) _
  · exact (((X6.far o3 _).far o3 _).set 0 _).set 1 _
end
theorem smd_smy_refl (ds : List DV) (mn : List SV) : (smd ds ds && smy mn mn) = true := by rw [smd_refl, smy_refl]; rfl

set_option maxRecDepth 200000 in
set_option maxHeartbeats 40000000 in
theorem tells_ast (ds es : List DV) (mn mm : List SV) (hs : sbk mn + dbk ds ≤ 4000000) (hs' : sbk mm + dbk es ≤ 4000000) (A : Option Addr) (c : Nat) (B : Option Addr) (d : Nat) (A' : Option Addr) (c' : Nat) (B' : Option Addr) (d' : Nat) (w : World) (hL : LaidA w) (hx : DR w A ds) (hy : SR w B mn) (hx' : DR w A' es) (hy' : SR w B' mm) :
    Calls Tryd.prog 4 #[pval A ds.length c B mn.length d, pval A' es.length c' B' mm.length d'] w fun e w' => e = .returned (.bool true) ∧ Below w.heap.size w w' := by
  have hz := ssz_bk mn
  have hz' := dsz_bk ds
  have h0 := Lib.hid (fun W hd hy => docsFew ds mn hs A c B d 300 W hd hy)
  have h0' := Lib.hid (fun W hd hy => docsFew es mm hs' A' c' B' d' 300 W hd hy)
  have q1 := Lib.hid (fun W (hb : Below w.heap.size w W) => docsProgram ds mn hs A c B d W (hx.step hb) (hy.step hb))
  have q3 := Lib.hid (fun W (hb : Below w.heap.size w W) => docsProgram es mm hs' A' c' B' d' W (hx'.step hb) (hy'.step hb))
  have h1 := Lib.hid (fun W l h1 h2 => astRight6 ds mn hs A c B d W l h1 h2)
  have h2 := Lib.hid (fun B1 B2 d1 d2 W h1 h2 => refRight6 ds mn hs B1 d1 B2 d2 W h1 h2)
  have h3 := Lib.hid (fun W h1 h2 => astSize6 ds mn (by omega) A c B d W h1 h2)
  have h4 := Lib.hid (fun B1 B2 d1 d2 W h1 h2 => refSize6 ds mn (by omega) B1 d1 B2 d2 W h1 h2)
  have h5 := Lib.hid (fun W h1 h2 => astDepth6 ds mn (by omega) A c B d W h1 h2)
  have h6 := Lib.hid (fun B1 B2 d1 d2 W h1 h2 => refDepth6 ds mn (by omega) B1 d1 B2 d2 W h1 h2)
  have h7 := Lib.hid (fun W h1 h2 h3 h4 => astSame6 ds es mn mm (by omega) A c B d A' c' B' d' W h1 h2 h3 h4)
  have h8 := Lib.hid (fun B1 B2 B3 B4 d1 d2 d3 d4 W h1 h2 h3 h4 => refSame6 ds es mn mm (by omega) B1 d1 B2 d2 B3 d3 B4 d4 W h1 h2 h3 h4)
  have h9 := Lib.hid (fun W h1 h2 => astSame6 ds ds mn mn (by omega) A c B d A c B d W h1 h2 h1 h2)
  have h10 := Lib.hid (fun W h1 h2 => docsProgram ds mn hs A c B d W h1 h2)
  have h11 := Lib.hid (fun B1 B2 B3 B4 d1 d2 d3 d4 W h1 h2 h3 h4 => refSame6 ds ds mn mn (by omega) B1 d1 B2 d2 B3 d3 B4 d4 W h1 h2 h3 h4)
  have h12 := Lib.hid (fun W (h : LaidA W) => works_ast W h.words)
  rw [smd_smy_refl] at h9 h11
  obtain ⟨n, hn⟩ : ∃ n, n = ds.length := ⟨_, rfl⟩
  obtain ⟨m, hm⟩ : ∃ n, n = mn.length := ⟨_, rfl⟩
  obtain ⟨n', hn'⟩ : ∃ n, n = es.length := ⟨_, rfl⟩
  obtain ⟨m', hm'⟩ : ∃ n, n = mm.length := ⟨_, rfl⟩
  unfold pval at *
  rw [← hn, ← hm] at h0 q1 h1 h2 h3 h4 h5 h6 h7 h8 h9 h10 h11 ⊢
  rw [← hn', ← hm'] at h0' q3 h7 h8 ⊢
  clear hn hm hn' hm' hz hz' hs hs'
  generalize (rgd ds && rgs mn) = vr at *
  generalize ssz mn + dsz ds = vs at *
  generalize max (sdp mn) (ddp ds) = vd at *
  generalize (smd ds es && smy mn mm) = ve at *
  have K0 := Lib.hid (TwoB.new w [.slice A n c, .slice B m d] [.slice A' n' c', .slice B' m' d'] 41 41)
  go_enter Tryd.func4, Tryd.ntmps4
  go_wp2_with fail
  generalize (w.alloc (.cells #[.slice A n c, .slice B m d] 41)).alloc (.cells #[.slice A' n' c', .slice B' m' d'] 41) = W0 at *
  refine (h0.out W0 (hx.step K0.out.2.2) (hy.step K0.out.2.2)).mono ?_
  rintro e w1 ⟨⟨b1, rfl⟩, hb1⟩
  have K1 := Lib.hid (K0.out.step hb1)
  have hL1 := Lib.hid (hL.step K1.out.2.2)
  clear K0 hb1
  cases b1 with
  | false =>
    go_wp2_with fail
    refine (h12.out _ hL1.out).mono ?_
    rintro e w2 ⟨rfl, hb2⟩
    have hb2 := Lib.hid (bth5 K1.out.2.2 hb2)
    go_wp2_with fail
    go_ret
    first | exact ⟨rfl, hb2.out⟩ | exact hb2.out
  | true =>
    have s1 := K1.out.2.1.two
    go_wp2_with fail
    refine (h0'.out w1 (hx'.step K1.out.2.2) (hy'.step K1.out.2.2)).mono ?_
    rintro e w2 ⟨⟨b2, rfl⟩, hb2⟩
    have K2 := Lib.hid (K1.out.step hb2)
    have hL2 := Lib.hid (hL.step K2.out.2.2)
    clear K1 hL1 hb2 s1
    cases b2 with
    | false =>
      go_wp2_with fail
      refine (h12.out _ hL2.out).mono ?_
      rintro e w3 ⟨rfl, hb3⟩
      have hb3 := Lib.hid (bth5 K2.out.2.2 hb3)
      go_wp2_with fail
      go_ret
      first | exact ⟨rfl, hb3.out⟩ | exact hb3.out
    | true =>
      go_wp2_with fail
      rename_i K hK
      have hrest : ∀ (g5 g6 : Nat) (B1 : Option Addr) (d1 : Nat) (B2 : Option Addr) (d2 : Nat) (B3 : Option Addr) (d3 : Nat) (B4 : Option Addr) (d4 : Nat) (W : World) (t0 t1 t4 t7 t8 t9 t10 t11 t12 t13 t14 t15 t16 t17 t18 t19 t20 t21 t22 t23 t24 t25 t26 t27 t28 t29 t30 t31 t32 t33 t34 t35 t36 t37 t38 t39 t40 t41 t42 t43 t44 t45 t46 t47 t48 t49 t50 t51 t52 t53 t54 t55 t56 t57 t58 t59 t60 t61 : Value), T3 w A n c B m d A' n' c' B' m' d' ds mn es mm g5 g6 B1 d1 B2 d2 B3 d3 B4 d4 W → K { tmps := #[t0, t1, .pointer (some ⟨w.heap.size, 0, none⟩), .pointer (some ⟨w.heap.size + 1, 0, none⟩), t4, .pointer (some ⟨g5, 0, none⟩), .pointer (some ⟨g6, 0, none⟩), t7, t8, t9, t10, t11, t12, t13, t14, t15, t16, t17, t18, t19, t20, t21, t22, t23, t24, t25, t26, t27, t28, t29, t30, t31, t32, t33, t34, t35, t36, t37, t38, t39, t40, t41, t42, t43, t44, t45, t46, t47, t48, t49, t50, t51, t52, t53, t54, t55, t56, t57, t58, t59, t60, t61], defers := [] } W := by
        intro g5 g6 B1 d1 B2 d2 B3 d3 B4 d4 W t0 t1 t4 t7 t8 t9 t10 t11 t12 t13 t14 t15 t16 t17 t18 t19 t20 t21 t22 t23 t24 t25 t26 t27 t28 t29 t30 t31 t32 t33 t34 t35 t36 t37 t38 t39 t40 t41 t42 t43 t44 t45 t46 t47 t48 t49 t50 t51 t52 t53 t54 t55 t56 t57 t58 t59 t60 t61 K0
        have K0 := Lib.hid (K0.step (Below.refl W.heap.size W).drew)
        refine hK _ _ ?_
        clear hK
        have s0 := K0.out.cells
        go_wp2_with fail
        go_region_held3 (fun w' => w'.cell? ⟨w.heap.size, 0, none⟩ = some (.slice A n c) ∧ w'.cell? ⟨w.heap.size, 1, none⟩ = some (.slice B m d) ∧ w'.cell? ⟨w.heap.size + 1, 0, none⟩ = some (.slice A' n' c') ∧ w'.cell? ⟨w.heap.size + 1, 1, none⟩ = some (.slice B' m' d') ∧ w'.cell? ⟨g5, 0, none⟩ = some (.slice B1 n d1) ∧ w'.cell? ⟨g5, 1, none⟩ = some (.slice B2 m d2) ∧ w'.cell? ⟨g6, 0, none⟩ = some (.slice B3 n' d3) ∧ w'.cell? ⟨g6, 1, none⟩ = some (.slice B4 m' d4)) (first | with_reducible exact s0 | with_reducible exact s1 | with_reducible exact s2 | with_reducible exact s3 | with_reducible exact s4 | with_reducible exact s5 | with_reducible exact s6 | with_reducible exact s7 | with_reducible exact s8 | with_reducible exact s9 | with_reducible exact s10 | with_reducible exact s11 | with_reducible exact s12)
          (first
            | (go_at_call 25
               with_reducible refine (h1.out _ K0.out.l (K0.out.dp) (K0.out.sp)).mono ?_
               rintro e V1 ⟨rfl, hb1⟩
               have K1 := Lib.hid (K0.out.step hb1)
               have s1 := K1.out.cells)
            | (go_at_call 26
               with_reducible refine (h2.out _ _ _ _ _ (K1.out.dr) (K1.out.sr)).mono ?_
               rintro e V2 ⟨rfl, hb2⟩
               have K2 := Lib.hid (K1.out.step hb2)
               have s2 := K2.out.cells)
            | (go_at_call 27
               with_reducible refine (h3.out _ (K2.out.dp) (K2.out.sp)).mono ?_
               rintro e V3 ⟨rfl, hb3⟩
               have K3 := Lib.hid (K2.out.step hb3)
               have s3 := K3.out.cells)
            | (go_at_call 28
               with_reducible refine (h4.out _ _ _ _ _ (K3.out.dr) (K3.out.sr)).mono ?_
               rintro e V4 ⟨rfl, hb4⟩
               have K4 := Lib.hid (K3.out.step hb4)
               have s4 := K4.out.cells)
            | (go_at_call 29
               with_reducible refine (h5.out _ (K4.out.dp) (K4.out.sp)).mono ?_
               rintro e V5 ⟨rfl, hb5⟩
               have K5 := Lib.hid (K4.out.step hb5)
               have s5 := K5.out.cells)
            | (go_at_call 30
               with_reducible refine (h6.out _ _ _ _ _ (K5.out.dr) (K5.out.sr)).mono ?_
               rintro e V6 ⟨rfl, hb6⟩
               have K6 := Lib.hid (K5.out.step hb6)
               have s6 := K6.out.cells)
            | (go_at_call 31
               with_reducible refine (h7.out _ (K6.out.dp) (K6.out.sp) (K6.out.dq) (K6.out.sq)).mono ?_
               rintro e V7 ⟨rfl, hb7⟩
               have K7 := Lib.hid (K6.out.step hb7)
               have s7 := K7.out.cells)
            | (go_at_call 32
               with_reducible refine (h8.out _ _ _ _ _ _ _ _ _ (K7.out.dr) (K7.out.sr) (K7.out.dx) (K7.out.sx)).mono ?_
               rintro e V8 ⟨rfl, hb8⟩
               have K8 := Lib.hid (K7.out.step hb8)
               have s8 := K8.out.cells)
            | (go_at_call 31
               with_reducible refine (h9.out _ (K8.out.dp) (K8.out.sp)).mono ?_
               rintro e V9 ⟨rfl, hb9⟩
               have K9 := Lib.hid (K8.out.step hb9)
               have s9 := K9.out.cells)
            | (go_at_call 24
               with_reducible refine (h10.out _ (K9.out.dp) (K9.out.sp)).mono ?_
               rintro e V10 ⟨E1, e1, E2, e2, rfl, kd, ks, hb10⟩
               have kd := kd.sub (Sub.only _ _)
               have ks := ks.sub (Sub.only _ _)
               have K10 := Lib.hid (K9.out.step hb10)
               have s10 := K10.out.cells)
            | (go_at_call 32
               with_reducible refine (h11.out _ _ _ _ _ _ _ _ _ kd ks (K10.out.dr) (K10.out.sr)).mono ?_
               rintro e V11 ⟨rfl, hb11⟩
               have K11 := Lib.hid (K10.out.step hb11)
               have s11 := K11.out.cells)
            | (go_at_call 7
               with_reducible refine (h12.out _ K11.out.l).mono ?_
               rintro e V12 ⟨rfl, hb12⟩
               have K12 := Lib.hid (K11.out.step hb12)
               have s12 := K12.out.cells))
        go_wp2_with fail
        go_ret
        first | exact ⟨rfl, K12.out.b⟩ | exact K12.out.b
      clear hK
      have HB0 := Lib.hid K2.out.2.2
      have HB := Lib.hid ((Below.refl w2.heap.size w2).drew)
      have HP := Lib.hid K2.out.1.drew
      have HQ := Lib.hid K2.out.2.1.drew
      have LV : w.heap.size + 2 ≤ w2.drew.heap.size := by have := K2.out.2.1.lt (by simp); simp; omega
      have stK : ∀ {W : World}, Box W w.heap.size [.slice A n c, .slice B m d] → Box W (w.heap.size + 1) [.slice A' n' c', .slice B' m' d'] → ((fun w' => w'.cell? ⟨w.heap.size, 0, none⟩ = some (.slice A n c) ∧ w'.cell? ⟨w.heap.size, 1, none⟩ = some (.slice B m d) ∧ w'.cell? ⟨w.heap.size + 1, 0, none⟩ = some (.slice A' n' c') ∧ w'.cell? ⟨w.heap.size + 1, 1, none⟩ = some (.slice B' m' d')) W) := fun {W} h1 h2 => ⟨(h1 0 _ rfl).1, (h1 1 _ rfl).1, (h2 0 _ rfl).1, (h2 1 _ rfl).1⟩
      refine wp_region_noPanic ?_
      refine wp_region_held_drew (S := fun w' => w'.cell? ⟨w.heap.size, 0, none⟩ = some (.slice A n c) ∧ w'.cell? ⟨w.heap.size, 1, none⟩ = some (.slice B m d) ∧ w'.cell? ⟨w.heap.size + 1, 0, none⟩ = some (.slice A' n' c') ∧ w'.cell? ⟨w.heap.size + 1, 1, none⟩ = some (.slice B' m' d')) (by kernel_rfl) (stK HP.out HQ.out) (fun hHeld => ?_)
      clear K2
      generalize hV0 : w2.drew = V0 at *
      clear hV0
      refine wpAnyH_take (i := 0) (oi := { dst := some 16, op := Go.Op.load 41 (Go.Operand.tmp 2), type := 41, pos := "law.go:35", after := #[], guard := none }) (v := ?_) rfl (by kernel_rfl) (by kernel_rfl) (by kernel_rfl) (fun _ _ _ h => h) (Or.inl ⟨by rfl, ?_⟩) hHeld ?_
      rotate_left 1
      · (intro w hSw; (try dsimp only at hSw); go_simp; (try with_reducible rfl))
      simp only [Act.put, List.setIfInBounds_toArray, List.set_cons_succ, List.set_cons_zero]
      refine wpAnyH_take (i := 2) (oi := { dst := some 18, op := Go.Op.load 41 (Go.Operand.tmp 3), type := 41, pos := "law.go:35", after := #[], guard := none }) (v := ?_) rfl (by kernel_rfl) (by kernel_rfl) (by kernel_rfl) (fun _ _ _ h => h) (Or.inl ⟨by rfl, ?_⟩) hHeld ?_
      rotate_left 1
      · (intro w hSw; (try dsimp only at hSw); go_simp; (try with_reducible rfl))
      simp only [Act.put, List.setIfInBounds_toArray, List.set_cons_succ, List.set_cons_zero]
      refine wpAnyH_ready (rs := [1, 4, 5]) (by kernel_rfl) (by simp) ?_
      refine AllReadyH.cons (o := { dst := some 17, op := Go.Op.call { callee := Go.Callee.value (Go.Operand.func 24), args := #[Go.Operand.tmp 16], argTypes := #[41] }, type := 46, pos := "law.go:35", after := #[{ on := 0, ground := Go.Ground.data }], guard := none }) rfl (fun K' hK' => ?_) (AllReadyH.cons (o := { dst := some 5, op := Go.Op.alloc 46, type := 0, pos := "law.go:35", after := #[], guard := none }) rfl (fun K' hK' => ?_) (AllReadyH.cons (o := { dst := some 6, op := Go.Op.alloc 46, type := 0, pos := "law.go:35", after := #[], guard := none }) rfl (fun K' hK' => ?_) AllReadyH.nil))
      · go_simp
        refine (q1.out V0 (bth5 HB0.out HB.out)).mono ?_
        rintro e V1 ⟨B1, d1, B2, d2, rfl, k1, k2, hbn⟩
        obtain ⟨l1, hl⟩ : ∃ x, x = V0.heap.size := ⟨_, rfl⟩
        obtain ⟨h1, hh⟩ : ∃ x, x = V1.heap.size := ⟨_, rfl⟩
        have Rr := And.intro (k1.sub (frI_of V1 _)) (k2.sub (frI_of V1 _))
        rw [← hl, ← hh] at Rr
        have Rr := Lib.hid Rr
        have HB := Lib.hid (HB.out.trans (hbn.mono HB.out.size))
        have HP := Lib.hid (HP.out.step hbn)
        have HQ := Lib.hid (HQ.out.step hbn)
        have hsn := hbn.size
        have O11 : l1 ≤ h1 := by omega
        have L1 : w.heap.size + 2 ≤ l1 := by have := LV; omega
        have U1 : h1 ≤ V1.heap.size := by omega
        have LV : w.heap.size + 2 ≤ V1.heap.size := by omega
        clear k1 k2 hbn hsn hl hh
        have sn := stK HP.out HQ.out
        refine hK'.out _ _ (sn) (fun hHeld => ?_)
        clear hK' K' sn
        try simp only [Act.put, List.setIfInBounds_toArray, List.set_cons_succ, List.set_cons_zero]
        refine wpAnyH_ready (rs := [3, 4, 5]) (by kernel_rfl) (by simp) ?_
        refine AllReadyH.cons (o := { dst := some 19, op := Go.Op.call { callee := Go.Callee.value (Go.Operand.func 24), args := #[Go.Operand.tmp 18], argTypes := #[41] }, type := 46, pos := "law.go:35", after := #[{ on := 2, ground := Go.Ground.data }, { on := 1, ground := Go.Ground.chain }], guard := none }) rfl (fun K' hK' => ?_) (AllReadyH.cons (o := { dst := some 5, op := Go.Op.alloc 46, type := 0, pos := "law.go:35", after := #[], guard := none }) rfl (fun K' hK' => ?_) (AllReadyH.cons (o := { dst := some 6, op := Go.Op.alloc 46, type := 0, pos := "law.go:35", after := #[], guard := none }) rfl (fun K' hK' => ?_) AllReadyH.nil))
        · go_simp
          refine (q3.out V1 (bth5 HB0.out HB.out)).mono ?_
          rintro e V2 ⟨B3, d3, B4, d4, rfl, k1, k2, hbn⟩
          obtain ⟨l3, hl⟩ : ∃ x, x = V1.heap.size := ⟨_, rfl⟩
          obtain ⟨h3, hh⟩ : ∃ x, x = V2.heap.size := ⟨_, rfl⟩
          have Rx := And.intro (k1.sub (frI_of V2 _)) (k2.sub (frI_of V2 _))
          rw [← hl, ← hh] at Rx
          have Rx := Lib.hid Rx
          have O13 : h1 ≤ l3 := by omega
          have HB := Lib.hid (HB.out.trans (hbn.mono HB.out.size))
          have HP := Lib.hid (HP.out.step hbn)
          have HQ := Lib.hid (HQ.out.step hbn)
          have Rr := Lib.hid (And.intro (Rr.out.1.sub (frI_below hbn)) (Rr.out.2.sub (frI_below hbn)))
          have hsn := hbn.size
          have U1 : h1 ≤ V2.heap.size := Nat.le_trans U1 hsn
          have O33 : l3 ≤ h3 := by omega
          have L3 : w.heap.size + 2 ≤ l3 := by have := LV; omega
          have U3 : h3 ≤ V2.heap.size := by omega
          have LV : w.heap.size + 2 ≤ V2.heap.size := by omega
          clear k1 k2 hbn hsn hl hh
          have sn := stK HP.out HQ.out
          refine hK'.out _ _ (sn) (fun hHeld => ?_)
          clear hK' K' sn
          try simp only [Act.put, List.setIfInBounds_toArray, List.set_cons_succ, List.set_cons_zero]
          refine wpAnyH_ready (rs := [4, 5]) (by kernel_rfl) (by simp) ?_
          refine AllReadyH.cons (o := { dst := some 5, op := Go.Op.alloc 46, type := 0, pos := "law.go:35", after := #[], guard := none }) rfl (fun K' hK' => ?_) (AllReadyH.cons (o := { dst := some 6, op := Go.Op.alloc 46, type := 0, pos := "law.go:35", after := #[], guard := none }) rfl (fun K' hK' => ?_) AllReadyH.nil)
          · go_simp
            have hbn := bnew5 V2 (.cells #[.slice none 0 0, .slice none 0 0] 46)
            have Xg5 := Box.new V2 [.slice none 0 0, .slice none 0 0] 46
            have HB := Lib.hid (HB.out.trans (hbn.mono HB.out.size))
            have HP := Lib.hid (HP.out.step hbn)
            have HQ := Lib.hid (HQ.out.step hbn)
            have Rr := Lib.hid (And.intro (Rr.out.1.sub (frI_below hbn)) (Rr.out.2.sub (frI_below hbn)))
            have Rx := Lib.hid (And.intro (Rx.out.1.sub (frI_below hbn)) (Rx.out.2.sub (frI_below hbn)))
            have hsn := hbn.size
            have U1 : h1 ≤ (V2.alloc (.cells #[.slice none 0 0, .slice none 0 0] 46)).heap.size := Nat.le_trans U1 hsn
            have U3 : h3 ≤ (V2.alloc (.cells #[.slice none 0 0, .slice none 0 0] 46)).heap.size := Nat.le_trans U3 hsn
            obtain ⟨g5, hg⟩ : ∃ g, g = V2.heap.size := ⟨_, rfl⟩
            have O14 : h1 ≤ g5 := by omega
            have O34 : h3 ≤ g5 := by omega
            have L4 : w.heap.size + 2 ≤ g5 := by have := LV; omega
            have U4 : g5 < (V2.alloc (.cells #[.slice none 0 0, .slice none 0 0] 46)).heap.size := by rw [hg]; simp
            have LV : w.heap.size + 2 ≤ (V2.alloc (.cells #[.slice none 0 0, .slice none 0 0] 46)).heap.size := by omega
            rw [← hg] at Xg5 ⊢
            have Xg5 := Lib.hid Xg5
            clear hbn hsn hg
            generalize V2.alloc (.cells #[.slice none 0 0, .slice none 0 0] 46) = V3 at *
            have sn := stK HP.out HQ.out
            refine hK'.out _ _ (sn) (fun hHeld => ?_)
            clear hK' K' sn
            try simp only [Act.put, List.setIfInBounds_toArray, List.set_cons_succ, List.set_cons_zero]
            refine wpAnyH_ready (rs := [5]) (by kernel_rfl) (by simp) ?_
            refine AllReadyH.cons (o := { dst := some 6, op := Go.Op.alloc 46, type := 0, pos := "law.go:35", after := #[], guard := none }) rfl (fun K' hK' => ?_) AllReadyH.nil
            go_simp
            have hbn := bnew5 V3 (.cells #[.slice none 0 0, .slice none 0 0] 46)
            have Xg6 := Box.new V3 [.slice none 0 0, .slice none 0 0] 46
            have HB := Lib.hid (HB.out.trans (hbn.mono HB.out.size))
            have HP := Lib.hid (HP.out.step hbn)
            have HQ := Lib.hid (HQ.out.step hbn)
            have Rr := Lib.hid (And.intro (Rr.out.1.sub (frI_below hbn)) (Rr.out.2.sub (frI_below hbn)))
            have Rx := Lib.hid (And.intro (Rx.out.1.sub (frI_below hbn)) (Rx.out.2.sub (frI_below hbn)))
            have Xg5 := Lib.hid (Xg5.out.step hbn)
            have hsn := hbn.size
            have U1 : h1 ≤ (V3.alloc (.cells #[.slice none 0 0, .slice none 0 0] 46)).heap.size := Nat.le_trans U1 hsn
            have U3 : h3 ≤ (V3.alloc (.cells #[.slice none 0 0, .slice none 0 0] 46)).heap.size := Nat.le_trans U3 hsn
            have U4 : g5 < (V3.alloc (.cells #[.slice none 0 0, .slice none 0 0] 46)).heap.size := Nat.lt_of_lt_of_le U4 hsn
            obtain ⟨g6, hg⟩ : ∃ g, g = V3.heap.size := ⟨_, rfl⟩
            have O15 : h1 ≤ g6 := by omega
            have O35 : h3 ≤ g6 := by omega
            have O45 : g5 < g6 := by omega
            have L5 : w.heap.size + 2 ≤ g6 := by have := LV; omega
            have U5 : g6 < (V3.alloc (.cells #[.slice none 0 0, .slice none 0 0] 46)).heap.size := by rw [hg]; simp
            have LV : w.heap.size + 2 ≤ (V3.alloc (.cells #[.slice none 0 0, .slice none 0 0] 46)).heap.size := by omega
            rw [← hg] at Xg6 ⊢
            have Xg6 := Lib.hid Xg6
            clear hbn hsn hg
            generalize V3.alloc (.cells #[.slice none 0 0, .slice none 0 0] 46) = V4 at *
            have sn := stK HP.out HQ.out
            refine hK'.out _ _ (sn) (fun hHeld => ?_)
            clear hK' K' sn
            try simp only [Act.put, List.setIfInBounds_toArray, List.set_cons_succ, List.set_cons_zero]
            have j0 := Xg5.out.two
            have j1 := (Xg5.out 0 _ rfl).2
            have j2 := (Xg5.out 1 _ rfl).2
            have hne : g6 ≠ g5 := by omega
            have Y := (Xg6.out.far (p := ⟨g5, 0, none⟩) (Ne.symm hne) (.slice B1 n d1)).far (p := ⟨g5, 1, none⟩) (Ne.symm hne) (.slice B2 m d2)
            have y0 := Y.two
            have y1 := (Y 0 _ rfl).2
            have y2 := (Y 1 _ rfl).2
            have s6 := stK ((HP.out.far (p := ⟨g5, 0, none⟩) (show g5 ≠ w.heap.size by omega) (.slice B1 n d1)).far (p := ⟨g5, 1, none⟩) (show g5 ≠ w.heap.size by omega) (.slice B2 m d2)) ((HQ.out.far (p := ⟨g5, 0, none⟩) (show g5 ≠ w.heap.size + 1 by omega) (.slice B1 n d1)).far (p := ⟨g5, 1, none⟩) (show g5 ≠ w.heap.size + 1 by omega) (.slice B2 m d2))
            have s7 := stK ((((HP.out.far (p := ⟨g5, 0, none⟩) (show g5 ≠ w.heap.size by omega) (.slice B1 n d1)).far (p := ⟨g5, 1, none⟩) (show g5 ≠ w.heap.size by omega) (.slice B2 m d2)).far (p := ⟨g6, 0, none⟩) (show g6 ≠ w.heap.size by omega) (.slice B3 n' d3)).far (p := ⟨g6, 1, none⟩) (show g6 ≠ w.heap.size by omega) (.slice B4 m' d4)) ((((HQ.out.far (p := ⟨g5, 0, none⟩) (show g5 ≠ w.heap.size + 1 by omega) (.slice B1 n d1)).far (p := ⟨g5, 1, none⟩) (show g5 ≠ w.heap.size + 1 by omega) (.slice B2 m d2)).far (p := ⟨g6, 0, none⟩) (show g6 ≠ w.heap.size + 1 by omega) (.slice B3 n' d3)).far (p := ⟨g6, 1, none⟩) (show g6 ≠ w.heap.size + 1 by omega) (.slice B4 m' d4))
            refine wpAnyH_ready (rs := [6]) (by kernel_rfl) (by simp) ?_
            refine AllReadyH.cons (o := { dst := none, op := Go.Op.store 46 (Go.Operand.tmp 5) (Go.Operand.tmp 17), type := 0, pos := "law.go:35", after := #[{ on := 4, ground := Go.Ground.data }, { on := 1, ground := Go.Ground.data }, { on := 3, ground := Go.Ground.chain }, { on := 0, ground := Go.Ground.phase }, { on := 1, ground := Go.Ground.phase }, { on := 2, ground := Go.Ground.textOnly Go.Departure.lateStores }, { on := 3, ground := Go.Ground.textOnly Go.Departure.lateStoresUnsure }, { on := 4, ground := Go.Ground.phase }, { on := 5, ground := Go.Ground.phase }], guard := none }) rfl (fun K' hK' => ?_) AllReadyH.nil
            go_simp
            refine hK'.out _ _ (s6) (fun hHeld => ?_)
            clear hK' K'
            try simp only [Act.put, List.setIfInBounds_toArray, List.set_cons_succ, List.set_cons_zero]
            refine wpAnyH_ready (rs := [7]) (by kernel_rfl) (by simp) ?_
            refine AllReadyH.cons (o := { dst := none, op := Go.Op.store 46 (Go.Operand.tmp 6) (Go.Operand.tmp 19), type := 0, pos := "law.go:35", after := #[{ on := 5, ground := Go.Ground.data }, { on := 3, ground := Go.Ground.data }, { on := 6, ground := Go.Ground.chain }, { on := 0, ground := Go.Ground.phase }, { on := 1, ground := Go.Ground.phase }, { on := 2, ground := Go.Ground.phase }, { on := 3, ground := Go.Ground.phase }, { on := 4, ground := Go.Ground.phase }, { on := 5, ground := Go.Ground.phase }, { on := 6, ground := Go.Ground.phase }], guard := none }) rfl (fun K' hK' => ?_) AllReadyH.nil
            go_simp
            refine hK'.out _ _ (s7) (fun hHeld => ?_)
            clear hK' K'
            try simp only [Act.put, List.setIfInBounds_toArray, List.set_cons_succ, List.set_cons_zero]
            refine wpAnyH_done (by kernel_rfl) ?_ _
            refine NoPanic.normal ?_
            exact hrest g5 g6 B1 d1 B2 d2 B3 d3 B4 d4 _ _ _ _ _ _ _ _ _ _ _ _ _ _ _ _ _ _ _ _ _ _ _ _ _ _ _ _ _ _ _ _ _ _ _ _ _ _ _ _ _ _ _ _ _ _ _ _ _ _ _ _ _ _ _ _ _ _ _ (T3.made hL hx hy hx' hy' HB0.out HB.out HP.out HQ.out Rr.out.1 Rr.out.2 Rx.out.1 Rx.out.2 Xg5.out Xg6.out (by omega))
          · go_simp
            have hbn := bnew5 V2 (.cells #[.slice none 0 0, .slice none 0 0] 46)
            have Xg6 := Box.new V2 [.slice none 0 0, .slice none 0 0] 46
            have HB := Lib.hid (HB.out.trans (hbn.mono HB.out.size))
            have HP := Lib.hid (HP.out.step hbn)
            have HQ := Lib.hid (HQ.out.step hbn)
            have Rr := Lib.hid (And.intro (Rr.out.1.sub (frI_below hbn)) (Rr.out.2.sub (frI_below hbn)))
            have Rx := Lib.hid (And.intro (Rx.out.1.sub (frI_below hbn)) (Rx.out.2.sub (frI_below hbn)))
            have hsn := hbn.size
            have U1 : h1 ≤ (V2.alloc (.cells #[.slice none 0 0, .slice none 0 0] 46)).heap.size := Nat.le_trans U1 hsn
            have U3 : h3 ≤ (V2.alloc (.cells #[.slice none 0 0, .slice none 0 0] 46)).heap.size := Nat.le_trans U3 hsn
            obtain ⟨g6, hg⟩ : ∃ g, g = V2.heap.size := ⟨_, rfl⟩
            have O15 : h1 ≤ g6 := by omega
            have O35 : h3 ≤ g6 := by omega
            have L5 : w.heap.size + 2 ≤ g6 := by have := LV; omega
            have U5 : g6 < (V2.alloc (.cells #[.slice none 0 0, .slice none 0 0] 46)).heap.size := by rw [hg]; simp
            have LV : w.heap.size + 2 ≤ (V2.alloc (.cells #[.slice none 0 0, .slice none 0 0] 46)).heap.size := by omega
            rw [← hg] at Xg6 ⊢
            have Xg6 := Lib.hid Xg6
            clear hbn hsn hg
            generalize V2.alloc (.cells #[.slice none 0 0, .slice none 0 0] 46) = V7 at *
            have sn := stK HP.out HQ.out
            refine hK'.out _ _ (sn) (fun hHeld => ?_)
            clear hK' K' sn
            try simp only [Act.put, List.setIfInBounds_toArray, List.set_cons_succ, List.set_cons_zero]
            refine wpAnyH_ready (rs := [4]) (by kernel_rfl) (by simp) ?_
            refine AllReadyH.cons (o := { dst := some 5, op := Go.Op.alloc 46, type := 0, pos := "law.go:35", after := #[], guard := none }) rfl (fun K' hK' => ?_) AllReadyH.nil
            go_simp
            have hbn := bnew5 V7 (.cells #[.slice none 0 0, .slice none 0 0] 46)
            have Xg5 := Box.new V7 [.slice none 0 0, .slice none 0 0] 46
            have HB := Lib.hid (HB.out.trans (hbn.mono HB.out.size))
            have HP := Lib.hid (HP.out.step hbn)
            have HQ := Lib.hid (HQ.out.step hbn)
            have Rr := Lib.hid (And.intro (Rr.out.1.sub (frI_below hbn)) (Rr.out.2.sub (frI_below hbn)))
            have Rx := Lib.hid (And.intro (Rx.out.1.sub (frI_below hbn)) (Rx.out.2.sub (frI_below hbn)))
            have Xg6 := Lib.hid (Xg6.out.step hbn)
            have hsn := hbn.size
            have U1 : h1 ≤ (V7.alloc (.cells #[.slice none 0 0, .slice none 0 0] 46)).heap.size := Nat.le_trans U1 hsn
            have U3 : h3 ≤ (V7.alloc (.cells #[.slice none 0 0, .slice none 0 0] 46)).heap.size := Nat.le_trans U3 hsn
            have U5 : g6 < (V7.alloc (.cells #[.slice none 0 0, .slice none 0 0] 46)).heap.size := Nat.lt_of_lt_of_le U5 hsn
            obtain ⟨g5, hg⟩ : ∃ g, g = V7.heap.size := ⟨_, rfl⟩
            have O14 : h1 ≤ g5 := by omega
            have O34 : h3 ≤ g5 := by omega
            have O54 : g6 < g5 := by omega
            have L4 : w.heap.size + 2 ≤ g5 := by have := LV; omega
            have U4 : g5 < (V7.alloc (.cells #[.slice none 0 0, .slice none 0 0] 46)).heap.size := by rw [hg]; simp
            have LV : w.heap.size + 2 ≤ (V7.alloc (.cells #[.slice none 0 0, .slice none 0 0] 46)).heap.size := by omega
            rw [← hg] at Xg5 ⊢
            have Xg5 := Lib.hid Xg5
            clear hbn hsn hg
            generalize V7.alloc (.cells #[.slice none 0 0, .slice none 0 0] 46) = V8 at *
            have sn := stK HP.out HQ.out
            refine hK'.out _ _ (sn) (fun hHeld => ?_)
            clear hK' K' sn
            try simp only [Act.put, List.setIfInBounds_toArray, List.set_cons_succ, List.set_cons_zero]
            have j0 := Xg5.out.two
            have j1 := (Xg5.out 0 _ rfl).2
            have j2 := (Xg5.out 1 _ rfl).2
            have hne : g6 ≠ g5 := by omega
            have Y := (Xg6.out.far (p := ⟨g5, 0, none⟩) (Ne.symm hne) (.slice B1 n d1)).far (p := ⟨g5, 1, none⟩) (Ne.symm hne) (.slice B2 m d2)
            have y0 := Y.two
            have y1 := (Y 0 _ rfl).2
            have y2 := (Y 1 _ rfl).2
            have s6 := stK ((HP.out.far (p := ⟨g5, 0, none⟩) (show g5 ≠ w.heap.size by omega) (.slice B1 n d1)).far (p := ⟨g5, 1, none⟩) (show g5 ≠ w.heap.size by omega) (.slice B2 m d2)) ((HQ.out.far (p := ⟨g5, 0, none⟩) (show g5 ≠ w.heap.size + 1 by omega) (.slice B1 n d1)).far (p := ⟨g5, 1, none⟩) (show g5 ≠ w.heap.size + 1 by omega) (.slice B2 m d2))
            have s7 := stK ((((HP.out.far (p := ⟨g5, 0, none⟩) (show g5 ≠ w.heap.size by omega) (.slice B1 n d1)).far (p := ⟨g5, 1, none⟩) (show g5 ≠ w.heap.size by omega) (.slice B2 m d2)).far (p := ⟨g6, 0, none⟩) (show g6 ≠ w.heap.size by omega) (.slice B3 n' d3)).far (p := ⟨g6, 1, none⟩) (show g6 ≠ w.heap.size by omega) (.slice B4 m' d4)) ((((HQ.out.far (p := ⟨g5, 0, none⟩) (show g5 ≠ w.heap.size + 1 by omega) (.slice B1 n d1)).far (p := ⟨g5, 1, none⟩) (show g5 ≠ w.heap.size + 1 by omega) (.slice B2 m d2)).far (p := ⟨g6, 0, none⟩) (show g6 ≠ w.heap.size + 1 by omega) (.slice B3 n' d3)).far (p := ⟨g6, 1, none⟩) (show g6 ≠ w.heap.size + 1 by omega) (.slice B4 m' d4))
            refine wpAnyH_ready (rs := [6]) (by kernel_rfl) (by simp) ?_
            refine AllReadyH.cons (o := { dst := none, op := Go.Op.store 46 (Go.Operand.tmp 5) (Go.Operand.tmp 17), type := 0, pos := "law.go:35", after := #[{ on := 4, ground := Go.Ground.data }, { on := 1, ground := Go.Ground.data }, { on := 3, ground := Go.Ground.chain }, { on := 0, ground := Go.Ground.phase }, { on := 1, ground := Go.Ground.phase }, { on := 2, ground := Go.Ground.textOnly Go.Departure.lateStores }, { on := 3, ground := Go.Ground.textOnly Go.Departure.lateStoresUnsure }, { on := 4, ground := Go.Ground.phase }, { on := 5, ground := Go.Ground.phase }], guard := none }) rfl (fun K' hK' => ?_) AllReadyH.nil
            go_simp
            refine hK'.out _ _ (s6) (fun hHeld => ?_)
            clear hK' K'
            try simp only [Act.put, List.setIfInBounds_toArray, List.set_cons_succ, List.set_cons_zero]
            refine wpAnyH_ready (rs := [7]) (by kernel_rfl) (by simp) ?_
            refine AllReadyH.cons (o := { dst := none, op := Go.Op.store 46 (Go.Operand.tmp 6) (Go.Operand.tmp 19), type := 0, pos := "law.go:35", after := #[{ on := 5, ground := Go.Ground.data }, { on := 3, ground := Go.Ground.data }, { on := 6, ground := Go.Ground.chain }, { on := 0, ground := Go.Ground.phase }, { on := 1, ground := Go.Ground.phase }, { on := 2, ground := Go.Ground.phase }, { on := 3, ground := Go.Ground.phase }, { on := 4, ground := Go.Ground.phase }, { on := 5, ground := Go.Ground.phase }, { on := 6, ground := Go.Ground.phase }], guard := none }) rfl (fun K' hK' => ?_) AllReadyH.nil
            go_simp
            refine hK'.out _ _ (s7) (fun hHeld => ?_)
            clear hK' K'
            try simp only [Act.put, List.setIfInBounds_toArray, List.set_cons_succ, List.set_cons_zero]
            refine wpAnyH_done (by kernel_rfl) ?_ _
            refine NoPanic.normal ?_
            exact hrest g5 g6 B1 d1 B2 d2 B3 d3 B4 d4 _ _ _ _ _ _ _ _ _ _ _ _ _ _ _ _ _ _ _ _ _ _ _ _ _ _ _ _ _ _ _ _ _ _ _ _ _ _ _ _ _ _ _ _ _ _ _ _ _ _ _ _ _ _ _ _ _ _ _ (T3.made hL hx hy hx' hy' HB0.out HB.out HP.out HQ.out Rr.out.1 Rr.out.2 Rx.out.1 Rx.out.2 Xg5.out Xg6.out (by omega))
        · go_simp
          have hbn := bnew5 V1 (.cells #[.slice none 0 0, .slice none 0 0] 46)
          have Xg5 := Box.new V1 [.slice none 0 0, .slice none 0 0] 46
          have HB := Lib.hid (HB.out.trans (hbn.mono HB.out.size))
          have HP := Lib.hid (HP.out.step hbn)
          have HQ := Lib.hid (HQ.out.step hbn)
          have Rr := Lib.hid (And.intro (Rr.out.1.sub (frI_below hbn)) (Rr.out.2.sub (frI_below hbn)))
          have hsn := hbn.size
          have U1 : h1 ≤ (V1.alloc (.cells #[.slice none 0 0, .slice none 0 0] 46)).heap.size := Nat.le_trans U1 hsn
          obtain ⟨g5, hg⟩ : ∃ g, g = V1.heap.size := ⟨_, rfl⟩
          have O14 : h1 ≤ g5 := by omega
          have L4 : w.heap.size + 2 ≤ g5 := by have := LV; omega
          have U4 : g5 < (V1.alloc (.cells #[.slice none 0 0, .slice none 0 0] 46)).heap.size := by rw [hg]; simp
          have LV : w.heap.size + 2 ≤ (V1.alloc (.cells #[.slice none 0 0, .slice none 0 0] 46)).heap.size := by omega
          rw [← hg] at Xg5 ⊢
          have Xg5 := Lib.hid Xg5
          clear hbn hsn hg
          generalize V1.alloc (.cells #[.slice none 0 0, .slice none 0 0] 46) = V11 at *
          have sn := stK HP.out HQ.out
          refine hK'.out _ _ (sn) (fun hHeld => ?_)
          clear hK' K' sn
          try simp only [Act.put, List.setIfInBounds_toArray, List.set_cons_succ, List.set_cons_zero]
          refine wpAnyH_ready (rs := [3, 5]) (by kernel_rfl) (by simp) ?_
          refine AllReadyH.cons (o := { dst := some 19, op := Go.Op.call { callee := Go.Callee.value (Go.Operand.func 24), args := #[Go.Operand.tmp 18], argTypes := #[41] }, type := 46, pos := "law.go:35", after := #[{ on := 2, ground := Go.Ground.data }, { on := 1, ground := Go.Ground.chain }], guard := none }) rfl (fun K' hK' => ?_) (AllReadyH.cons (o := { dst := some 6, op := Go.Op.alloc 46, type := 0, pos := "law.go:35", after := #[], guard := none }) rfl (fun K' hK' => ?_) AllReadyH.nil)
          · go_simp
            refine (q3.out V11 (bth5 HB0.out HB.out)).mono ?_
            rintro e V12 ⟨B3, d3, B4, d4, rfl, k1, k2, hbn⟩
            obtain ⟨l3, hl⟩ : ∃ x, x = V11.heap.size := ⟨_, rfl⟩
            obtain ⟨h3, hh⟩ : ∃ x, x = V12.heap.size := ⟨_, rfl⟩
            have Rx := And.intro (k1.sub (frI_of V12 _)) (k2.sub (frI_of V12 _))
            rw [← hl, ← hh] at Rx
            have Rx := Lib.hid Rx
            have O13 : h1 ≤ l3 := by omega
            have O43 : g5 < l3 := by omega
            have HB := Lib.hid (HB.out.trans (hbn.mono HB.out.size))
            have HP := Lib.hid (HP.out.step hbn)
            have HQ := Lib.hid (HQ.out.step hbn)
            have Rr := Lib.hid (And.intro (Rr.out.1.sub (frI_below hbn)) (Rr.out.2.sub (frI_below hbn)))
            have Xg5 := Lib.hid (Xg5.out.step hbn)
            have hsn := hbn.size
            have U1 : h1 ≤ V12.heap.size := Nat.le_trans U1 hsn
            have U4 : g5 < V12.heap.size := Nat.lt_of_lt_of_le U4 hsn
            have O33 : l3 ≤ h3 := by omega
            have L3 : w.heap.size + 2 ≤ l3 := by have := LV; omega
            have U3 : h3 ≤ V12.heap.size := by omega
            have LV : w.heap.size + 2 ≤ V12.heap.size := by omega
            clear k1 k2 hbn hsn hl hh
            have sn := stK HP.out HQ.out
            refine hK'.out _ _ (sn) (fun hHeld => ?_)
            clear hK' K' sn
            try simp only [Act.put, List.setIfInBounds_toArray, List.set_cons_succ, List.set_cons_zero]
            refine wpAnyH_ready (rs := [5]) (by kernel_rfl) (by simp) ?_
            refine AllReadyH.cons (o := { dst := some 6, op := Go.Op.alloc 46, type := 0, pos := "law.go:35", after := #[], guard := none }) rfl (fun K' hK' => ?_) AllReadyH.nil
            go_simp
            have hbn := bnew5 V12 (.cells #[.slice none 0 0, .slice none 0 0] 46)
            have Xg6 := Box.new V12 [.slice none 0 0, .slice none 0 0] 46
            have HB := Lib.hid (HB.out.trans (hbn.mono HB.out.size))
            have HP := Lib.hid (HP.out.step hbn)
            have HQ := Lib.hid (HQ.out.step hbn)
            have Rr := Lib.hid (And.intro (Rr.out.1.sub (frI_below hbn)) (Rr.out.2.sub (frI_below hbn)))
            have Xg5 := Lib.hid (Xg5.out.step hbn)
            have Rx := Lib.hid (And.intro (Rx.out.1.sub (frI_below hbn)) (Rx.out.2.sub (frI_below hbn)))
            have hsn := hbn.size
            have U1 : h1 ≤ (V12.alloc (.cells #[.slice none 0 0, .slice none 0 0] 46)).heap.size := Nat.le_trans U1 hsn
            have U4 : g5 < (V12.alloc (.cells #[.slice none 0 0, .slice none 0 0] 46)).heap.size := Nat.lt_of_lt_of_le U4 hsn
            have U3 : h3 ≤ (V12.alloc (.cells #[.slice none 0 0, .slice none 0 0] 46)).heap.size := Nat.le_trans U3 hsn
            obtain ⟨g6, hg⟩ : ∃ g, g = V12.heap.size := ⟨_, rfl⟩
            have O15 : h1 ≤ g6 := by omega
            have O45 : g5 < g6 := by omega
            have O35 : h3 ≤ g6 := by omega
            have L5 : w.heap.size + 2 ≤ g6 := by have := LV; omega
            have U5 : g6 < (V12.alloc (.cells #[.slice none 0 0, .slice none 0 0] 46)).heap.size := by rw [hg]; simp
            have LV : w.heap.size + 2 ≤ (V12.alloc (.cells #[.slice none 0 0, .slice none 0 0] 46)).heap.size := by omega
            rw [← hg] at Xg6 ⊢
            have Xg6 := Lib.hid Xg6
            clear hbn hsn hg
            generalize V12.alloc (.cells #[.slice none 0 0, .slice none 0 0] 46) = V13 at *
            have sn := stK HP.out HQ.out
            refine hK'.out _ _ (sn) (fun hHeld => ?_)
            clear hK' K' sn
            try simp only [Act.put, List.setIfInBounds_toArray, List.set_cons_succ, List.set_cons_zero]
            have j0 := Xg5.out.two
            have j1 := (Xg5.out 0 _ rfl).2
            have j2 := (Xg5.out 1 _ rfl).2
            have hne : g6 ≠ g5 := by omega
            have Y := (Xg6.out.far (p := ⟨g5, 0, none⟩) (Ne.symm hne) (.slice B1 n d1)).far (p := ⟨g5, 1, none⟩) (Ne.symm hne) (.slice B2 m d2)
            have y0 := Y.two
            have y1 := (Y 0 _ rfl).2
            have y2 := (Y 1 _ rfl).2
            have s6 := stK ((HP.out.far (p := ⟨g5, 0, none⟩) (show g5 ≠ w.heap.size by omega) (.slice B1 n d1)).far (p := ⟨g5, 1, none⟩) (show g5 ≠ w.heap.size by omega) (.slice B2 m d2)) ((HQ.out.far (p := ⟨g5, 0, none⟩) (show g5 ≠ w.heap.size + 1 by omega) (.slice B1 n d1)).far (p := ⟨g5, 1, none⟩) (show g5 ≠ w.heap.size + 1 by omega) (.slice B2 m d2))
            have s7 := stK ((((HP.out.far (p := ⟨g5, 0, none⟩) (show g5 ≠ w.heap.size by omega) (.slice B1 n d1)).far (p := ⟨g5, 1, none⟩) (show g5 ≠ w.heap.size by omega) (.slice B2 m d2)).far (p := ⟨g6, 0, none⟩) (show g6 ≠ w.heap.size by omega) (.slice B3 n' d3)).far (p := ⟨g6, 1, none⟩) (show g6 ≠ w.heap.size by omega) (.slice B4 m' d4)) ((((HQ.out.far (p := ⟨g5, 0, none⟩) (show g5 ≠ w.heap.size + 1 by omega) (.slice B1 n d1)).far (p := ⟨g5, 1, none⟩) (show g5 ≠ w.heap.size + 1 by omega) (.slice B2 m d2)).far (p := ⟨g6, 0, none⟩) (show g6 ≠ w.heap.size + 1 by omega) (.slice B3 n' d3)).far (p := ⟨g6, 1, none⟩) (show g6 ≠ w.heap.size + 1 by omega) (.slice B4 m' d4))
            refine wpAnyH_ready (rs := [6]) (by kernel_rfl) (by simp) ?_
            refine AllReadyH.cons (o := { dst := none, op := Go.Op.store 46 (Go.Operand.tmp 5) (Go.Operand.tmp 17), type := 0, pos := "law.go:35", after := #[{ on := 4, ground := Go.Ground.data }, { on := 1, ground := Go.Ground.data }, { on := 3, ground := Go.Ground.chain }, { on := 0, ground := Go.Ground.phase }, { on := 1, ground := Go.Ground.phase }, { on := 2, ground := Go.Ground.textOnly Go.Departure.lateStores }, { on := 3, ground := Go.Ground.textOnly Go.Departure.lateStoresUnsure }, { on := 4, ground := Go.Ground.phase }, { on := 5, ground := Go.Ground.phase }], guard := none }) rfl (fun K' hK' => ?_) AllReadyH.nil
            go_simp
            refine hK'.out _ _ (s6) (fun hHeld => ?_)
            clear hK' K'
            try simp only [Act.put, List.setIfInBounds_toArray, List.set_cons_succ, List.set_cons_zero]
            refine wpAnyH_ready (rs := [7]) (by kernel_rfl) (by simp) ?_
            refine AllReadyH.cons (o := { dst := none, op := Go.Op.store 46 (Go.Operand.tmp 6) (Go.Operand.tmp 19), type := 0, pos := "law.go:35", after := #[{ on := 5, ground := Go.Ground.data }, { on := 3, ground := Go.Ground.data }, { on := 6, ground := Go.Ground.chain }, { on := 0, ground := Go.Ground.phase }, { on := 1, ground := Go.Ground.phase }, { on := 2, ground := Go.Ground.phase }, { on := 3, ground := Go.Ground.phase }, { on := 4, ground := Go.Ground.phase }, { on := 5, ground := Go.Ground.phase }, { on := 6, ground := Go.Ground.phase }], guard := none }) rfl (fun K' hK' => ?_) AllReadyH.nil
            go_simp
            refine hK'.out _ _ (s7) (fun hHeld => ?_)
            clear hK' K'
            try simp only [Act.put, List.setIfInBounds_toArray, List.set_cons_succ, List.set_cons_zero]
            refine wpAnyH_done (by kernel_rfl) ?_ _
            refine NoPanic.normal ?_
            exact hrest g5 g6 B1 d1 B2 d2 B3 d3 B4 d4 _ _ _ _ _ _ _ _ _ _ _ _ _ _ _ _ _ _ _ _ _ _ _ _ _ _ _ _ _ _ _ _ _ _ _ _ _ _ _ _ _ _ _ _ _ _ _ _ _ _ _ _ _ _ _ _ _ _ _ (T3.made hL hx hy hx' hy' HB0.out HB.out HP.out HQ.out Rr.out.1 Rr.out.2 Rx.out.1 Rx.out.2 Xg5.out Xg6.out (by omega))
          · go_simp
            have hbn := bnew5 V11 (.cells #[.slice none 0 0, .slice none 0 0] 46)
            have Xg6 := Box.new V11 [.slice none 0 0, .slice none 0 0] 46
            have HB := Lib.hid (HB.out.trans (hbn.mono HB.out.size))
            have HP := Lib.hid (HP.out.step hbn)
            have HQ := Lib.hid (HQ.out.step hbn)
            have Rr := Lib.hid (And.intro (Rr.out.1.sub (frI_below hbn)) (Rr.out.2.sub (frI_below hbn)))
            have Xg5 := Lib.hid (Xg5.out.step hbn)
            have hsn := hbn.size
            have U1 : h1 ≤ (V11.alloc (.cells #[.slice none 0 0, .slice none 0 0] 46)).heap.size := Nat.le_trans U1 hsn
            have U4 : g5 < (V11.alloc (.cells #[.slice none 0 0, .slice none 0 0] 46)).heap.size := Nat.lt_of_lt_of_le U4 hsn
            obtain ⟨g6, hg⟩ : ∃ g, g = V11.heap.size := ⟨_, rfl⟩
            have O15 : h1 ≤ g6 := by omega
            have O45 : g5 < g6 := by omega
            have L5 : w.heap.size + 2 ≤ g6 := by have := LV; omega
            have U5 : g6 < (V11.alloc (.cells #[.slice none 0 0, .slice none 0 0] 46)).heap.size := by rw [hg]; simp
            have LV : w.heap.size + 2 ≤ (V11.alloc (.cells #[.slice none 0 0, .slice none 0 0] 46)).heap.size := by omega
            rw [← hg] at Xg6 ⊢
            have Xg6 := Lib.hid Xg6
            clear hbn hsn hg
            generalize V11.alloc (.cells #[.slice none 0 0, .slice none 0 0] 46) = V16 at *
            have sn := stK HP.out HQ.out
            refine hK'.out _ _ (sn) (fun hHeld => ?_)
            clear hK' K' sn
            try simp only [Act.put, List.setIfInBounds_toArray, List.set_cons_succ, List.set_cons_zero]
            refine wpAnyH_ready (rs := [3]) (by kernel_rfl) (by simp) ?_
            refine AllReadyH.cons (o := { dst := some 19, op := Go.Op.call { callee := Go.Callee.value (Go.Operand.func 24), args := #[Go.Operand.tmp 18], argTypes := #[41] }, type := 46, pos := "law.go:35", after := #[{ on := 2, ground := Go.Ground.data }, { on := 1, ground := Go.Ground.chain }], guard := none }) rfl (fun K' hK' => ?_) AllReadyH.nil
            go_simp
            refine (q3.out V16 (bth5 HB0.out HB.out)).mono ?_
            rintro e V17 ⟨B3, d3, B4, d4, rfl, k1, k2, hbn⟩
            obtain ⟨l3, hl⟩ : ∃ x, x = V16.heap.size := ⟨_, rfl⟩
            obtain ⟨h3, hh⟩ : ∃ x, x = V17.heap.size := ⟨_, rfl⟩
            have Rx := And.intro (k1.sub (frI_of V17 _)) (k2.sub (frI_of V17 _))
            rw [← hl, ← hh] at Rx
            have Rx := Lib.hid Rx
            have O13 : h1 ≤ l3 := by omega
            have O43 : g5 < l3 := by omega
            have O53 : g6 < l3 := by omega
            have HB := Lib.hid (HB.out.trans (hbn.mono HB.out.size))
            have HP := Lib.hid (HP.out.step hbn)
            have HQ := Lib.hid (HQ.out.step hbn)
            have Rr := Lib.hid (And.intro (Rr.out.1.sub (frI_below hbn)) (Rr.out.2.sub (frI_below hbn)))
            have Xg5 := Lib.hid (Xg5.out.step hbn)
            have Xg6 := Lib.hid (Xg6.out.step hbn)
            have hsn := hbn.size
            have U1 : h1 ≤ V17.heap.size := Nat.le_trans U1 hsn
            have U4 : g5 < V17.heap.size := Nat.lt_of_lt_of_le U4 hsn
            have U5 : g6 < V17.heap.size := Nat.lt_of_lt_of_le U5 hsn
            have O33 : l3 ≤ h3 := by omega
            have L3 : w.heap.size + 2 ≤ l3 := by have := LV; omega
            have U3 : h3 ≤ V17.heap.size := by omega
            have LV : w.heap.size + 2 ≤ V17.heap.size := by omega
            clear k1 k2 hbn hsn hl hh
            have sn := stK HP.out HQ.out
            refine hK'.out _ _ (sn) (fun hHeld => ?_)
            clear hK' K' sn
            try simp only [Act.put, List.setIfInBounds_toArray, List.set_cons_succ, List.set_cons_zero]
            have j0 := Xg5.out.two
            have j1 := (Xg5.out 0 _ rfl).2
            have j2 := (Xg5.out 1 _ rfl).2
            have hne : g6 ≠ g5 := by omega
            have Y := (Xg6.out.far (p := ⟨g5, 0, none⟩) (Ne.symm hne) (.slice B1 n d1)).far (p := ⟨g5, 1, none⟩) (Ne.symm hne) (.slice B2 m d2)
            have y0 := Y.two
            have y1 := (Y 0 _ rfl).2
            have y2 := (Y 1 _ rfl).2
            have s6 := stK ((HP.out.far (p := ⟨g5, 0, none⟩) (show g5 ≠ w.heap.size by omega) (.slice B1 n d1)).far (p := ⟨g5, 1, none⟩) (show g5 ≠ w.heap.size by omega) (.slice B2 m d2)) ((HQ.out.far (p := ⟨g5, 0, none⟩) (show g5 ≠ w.heap.size + 1 by omega) (.slice B1 n d1)).far (p := ⟨g5, 1, none⟩) (show g5 ≠ w.heap.size + 1 by omega) (.slice B2 m d2))
            have s7 := stK ((((HP.out.far (p := ⟨g5, 0, none⟩) (show g5 ≠ w.heap.size by omega) (.slice B1 n d1)).far (p := ⟨g5, 1, none⟩) (show g5 ≠ w.heap.size by omega) (.slice B2 m d2)).far (p := ⟨g6, 0, none⟩) (show g6 ≠ w.heap.size by omega) (.slice B3 n' d3)).far (p := ⟨g6, 1, none⟩) (show g6 ≠ w.heap.size by omega) (.slice B4 m' d4)) ((((HQ.out.far (p := ⟨g5, 0, none⟩) (show g5 ≠ w.heap.size + 1 by omega) (.slice B1 n d1)).far (p := ⟨g5, 1, none⟩) (show g5 ≠ w.heap.size + 1 by omega) (.slice B2 m d2)).far (p := ⟨g6, 0, none⟩) (show g6 ≠ w.heap.size + 1 by omega) (.slice B3 n' d3)).far (p := ⟨g6, 1, none⟩) (show g6 ≠ w.heap.size + 1 by omega) (.slice B4 m' d4))
            refine wpAnyH_ready (rs := [6]) (by kernel_rfl) (by simp) ?_
            refine AllReadyH.cons (o := { dst := none, op := Go.Op.store 46 (Go.Operand.tmp 5) (Go.Operand.tmp 17), type := 0, pos := "law.go:35", after := #[{ on := 4, ground := Go.Ground.data }, { on := 1, ground := Go.Ground.data }, { on := 3, ground := Go.Ground.chain }, { on := 0, ground := Go.Ground.phase }, { on := 1, ground := Go.Ground.phase }, { on := 2, ground := Go.Ground.textOnly Go.Departure.lateStores }, { on := 3, ground := Go.Ground.textOnly Go.Departure.lateStoresUnsure }, { on := 4, ground := Go.Ground.phase }, { on := 5, ground := Go.Ground.phase }], guard := none }) rfl (fun K' hK' => ?_) AllReadyH.nil
            go_simp
            refine hK'.out _ _ (s6) (fun hHeld => ?_)
            clear hK' K'
            try simp only [Act.put, List.setIfInBounds_toArray, List.set_cons_succ, List.set_cons_zero]
            refine wpAnyH_ready (rs := [7]) (by kernel_rfl) (by simp) ?_
            refine AllReadyH.cons (o := { dst := none, op := Go.Op.store 46 (Go.Operand.tmp 6) (Go.Operand.tmp 19), type := 0, pos := "law.go:35", after := #[{ on := 5, ground := Go.Ground.data }, { on := 3, ground := Go.Ground.data }, { on := 6, ground := Go.Ground.chain }, { on := 0, ground := Go.Ground.phase }, { on := 1, ground := Go.Ground.phase }, { on := 2, ground := Go.Ground.phase }, { on := 3, ground := Go.Ground.phase }, { on := 4, ground := Go.Ground.phase }, { on := 5, ground := Go.Ground.phase }, { on := 6, ground := Go.Ground.phase }], guard := none }) rfl (fun K' hK' => ?_) AllReadyH.nil
            go_simp
            refine hK'.out _ _ (s7) (fun hHeld => ?_)
            clear hK' K'
            try simp only [Act.put, List.setIfInBounds_toArray, List.set_cons_succ, List.set_cons_zero]
            refine wpAnyH_done (by kernel_rfl) ?_ _
            refine NoPanic.normal ?_
            exact hrest g5 g6 B1 d1 B2 d2 B3 d3 B4 d4 _ _ _ _ _ _ _ _ _ _ _ _ _ _ _ _ _ _ _ _ _ _ _ _ _ _ _ _ _ _ _ _ _ _ _ _ _ _ _ _ _ _ _ _ _ _ _ _ _ _ _ _ _ _ _ _ _ _ _ (T3.made hL hx hy hx' hy' HB0.out HB.out HP.out HQ.out Rr.out.1 Rr.out.2 Rx.out.1 Rx.out.2 Xg5.out Xg6.out (by omega))
        · go_simp
          have hbn := bnew5 V1 (.cells #[.slice none 0 0, .slice none 0 0] 46)
          have Xg6 := Box.new V1 [.slice none 0 0, .slice none 0 0] 46
          have HB := Lib.hid (HB.out.trans (hbn.mono HB.out.size))
          have HP := Lib.hid (HP.out.step hbn)
          have HQ := Lib.hid (HQ.out.step hbn)
          have Rr := Lib.hid (And.intro (Rr.out.1.sub (frI_below hbn)) (Rr.out.2.sub (frI_below hbn)))
          have hsn := hbn.size
          have U1 : h1 ≤ (V1.alloc (.cells #[.slice none 0 0, .slice none 0 0] 46)).heap.size := Nat.le_trans U1 hsn
          obtain ⟨g6, hg⟩ : ∃ g, g = V1.heap.size := ⟨_, rfl⟩
          have O15 : h1 ≤ g6 := by omega
          have L5 : w.heap.size + 2 ≤ g6 := by have := LV; omega
          have U5 : g6 < (V1.alloc (.cells #[.slice none 0 0, .slice none 0 0] 46)).heap.size := by rw [hg]; simp
          have LV : w.heap.size + 2 ≤ (V1.alloc (.cells #[.slice none 0 0, .slice none 0 0] 46)).heap.size := by omega
          rw [← hg] at Xg6 ⊢
          have Xg6 := Lib.hid Xg6
          clear hbn hsn hg
          generalize V1.alloc (.cells #[.slice none 0 0, .slice none 0 0] 46) = V20 at *
          have sn := stK HP.out HQ.out
          refine hK'.out _ _ (sn) (fun hHeld => ?_)
          clear hK' K' sn
          try simp only [Act.put, List.setIfInBounds_toArray, List.set_cons_succ, List.set_cons_zero]
          refine wpAnyH_ready (rs := [3, 4]) (by kernel_rfl) (by simp) ?_
          refine AllReadyH.cons (o := { dst := some 19, op := Go.Op.call { callee := Go.Callee.value (Go.Operand.func 24), args := #[Go.Operand.tmp 18], argTypes := #[41] }, type := 46, pos := "law.go:35", after := #[{ on := 2, ground := Go.Ground.data }, { on := 1, ground := Go.Ground.chain }], guard := none }) rfl (fun K' hK' => ?_) (AllReadyH.cons (o := { dst := some 5, op := Go.Op.alloc 46, type := 0, pos := "law.go:35", after := #[], guard := none }) rfl (fun K' hK' => ?_) AllReadyH.nil)
          · go_simp
            refine (q3.out V20 (bth5 HB0.out HB.out)).mono ?_
            rintro e V21 ⟨B3, d3, B4, d4, rfl, k1, k2, hbn⟩
            obtain ⟨l3, hl⟩ : ∃ x, x = V20.heap.size := ⟨_, rfl⟩
            obtain ⟨h3, hh⟩ : ∃ x, x = V21.heap.size := ⟨_, rfl⟩
            have Rx := And.intro (k1.sub (frI_of V21 _)) (k2.sub (frI_of V21 _))
            rw [← hl, ← hh] at Rx
            have Rx := Lib.hid Rx
            have O13 : h1 ≤ l3 := by omega
            have O53 : g6 < l3 := by omega
            have HB := Lib.hid (HB.out.trans (hbn.mono HB.out.size))
            have HP := Lib.hid (HP.out.step hbn)
            have HQ := Lib.hid (HQ.out.step hbn)
            have Rr := Lib.hid (And.intro (Rr.out.1.sub (frI_below hbn)) (Rr.out.2.sub (frI_below hbn)))
            have Xg6 := Lib.hid (Xg6.out.step hbn)
            have hsn := hbn.size
            have U1 : h1 ≤ V21.heap.size := Nat.le_trans U1 hsn
            have U5 : g6 < V21.heap.size := Nat.lt_of_lt_of_le U5 hsn
            have O33 : l3 ≤ h3 := by omega
            have L3 : w.heap.size + 2 ≤ l3 := by have := LV; omega
            have U3 : h3 ≤ V21.heap.size := by omega
            have LV : w.heap.size + 2 ≤ V21.heap.size := by omega
            clear k1 k2 hbn hsn hl hh
            have sn := stK HP.out HQ.out
            refine hK'.out _ _ (sn) (fun hHeld => ?_)
            clear hK' K' sn
            try simp only [Act.put, List.setIfInBounds_toArray, List.set_cons_succ, List.set_cons_zero]
            refine wpAnyH_ready (rs := [4]) (by kernel_rfl) (by simp) ?_
            refine AllReadyH.cons (o := { dst := some 5, op := Go.Op.alloc 46, type := 0, pos := "law.go:35", after := #[], guard := none }) rfl (fun K' hK' => ?_) AllReadyH.nil
            go_simp
            have hbn := bnew5 V21 (.cells #[.slice none 0 0, .slice none 0 0] 46)
            have Xg5 := Box.new V21 [.slice none 0 0, .slice none 0 0] 46
            have HB := Lib.hid (HB.out.trans (hbn.mono HB.out.size))
            have HP := Lib.hid (HP.out.step hbn)
            have HQ := Lib.hid (HQ.out.step hbn)
            have Rr := Lib.hid (And.intro (Rr.out.1.sub (frI_below hbn)) (Rr.out.2.sub (frI_below hbn)))
            have Xg6 := Lib.hid (Xg6.out.step hbn)
            have Rx := Lib.hid (And.intro (Rx.out.1.sub (frI_below hbn)) (Rx.out.2.sub (frI_below hbn)))
            have hsn := hbn.size
            have U1 : h1 ≤ (V21.alloc (.cells #[.slice none 0 0, .slice none 0 0] 46)).heap.size := Nat.le_trans U1 hsn
            have U5 : g6 < (V21.alloc (.cells #[.slice none 0 0, .slice none 0 0] 46)).heap.size := Nat.lt_of_lt_of_le U5 hsn
            have U3 : h3 ≤ (V21.alloc (.cells #[.slice none 0 0, .slice none 0 0] 46)).heap.size := Nat.le_trans U3 hsn
            obtain ⟨g5, hg⟩ : ∃ g, g = V21.heap.size := ⟨_, rfl⟩
            have O14 : h1 ≤ g5 := by omega
            have O54 : g6 < g5 := by omega
            have O34 : h3 ≤ g5 := by omega
            have L4 : w.heap.size + 2 ≤ g5 := by have := LV; omega
            have U4 : g5 < (V21.alloc (.cells #[.slice none 0 0, .slice none 0 0] 46)).heap.size := by rw [hg]; simp
            have LV : w.heap.size + 2 ≤ (V21.alloc (.cells #[.slice none 0 0, .slice none 0 0] 46)).heap.size := by omega
            rw [← hg] at Xg5 ⊢
            have Xg5 := Lib.hid Xg5
            clear hbn hsn hg
            generalize V21.alloc (.cells #[.slice none 0 0, .slice none 0 0] 46) = V22 at *
            have sn := stK HP.out HQ.out
            refine hK'.out _ _ (sn) (fun hHeld => ?_)
            clear hK' K' sn
            try simp only [Act.put, List.setIfInBounds_toArray, List.set_cons_succ, List.set_cons_zero]
            have j0 := Xg5.out.two
            have j1 := (Xg5.out 0 _ rfl).2
            have j2 := (Xg5.out 1 _ rfl).2
            have hne : g6 ≠ g5 := by omega
            have Y := (Xg6.out.far (p := ⟨g5, 0, none⟩) (Ne.symm hne) (.slice B1 n d1)).far (p := ⟨g5, 1, none⟩) (Ne.symm hne) (.slice B2 m d2)
            have y0 := Y.two
            have y1 := (Y 0 _ rfl).2
            have y2 := (Y 1 _ rfl).2
            have s6 := stK ((HP.out.far (p := ⟨g5, 0, none⟩) (show g5 ≠ w.heap.size by omega) (.slice B1 n d1)).far (p := ⟨g5, 1, none⟩) (show g5 ≠ w.heap.size by omega) (.slice B2 m d2)) ((HQ.out.far (p := ⟨g5, 0, none⟩) (show g5 ≠ w.heap.size + 1 by omega) (.slice B1 n d1)).far (p := ⟨g5, 1, none⟩) (show g5 ≠ w.heap.size + 1 by omega) (.slice B2 m d2))
            have s7 := stK ((((HP.out.far (p := ⟨g5, 0, none⟩) (show g5 ≠ w.heap.size by omega) (.slice B1 n d1)).far (p := ⟨g5, 1, none⟩) (show g5 ≠ w.heap.size by omega) (.slice B2 m d2)).far (p := ⟨g6, 0, none⟩) (show g6 ≠ w.heap.size by omega) (.slice B3 n' d3)).far (p := ⟨g6, 1, none⟩) (show g6 ≠ w.heap.size by omega) (.slice B4 m' d4)) ((((HQ.out.far (p := ⟨g5, 0, none⟩) (show g5 ≠ w.heap.size + 1 by omega) (.slice B1 n d1)).far (p := ⟨g5, 1, none⟩) (show g5 ≠ w.heap.size + 1 by omega) (.slice B2 m d2)).far (p := ⟨g6, 0, none⟩) (show g6 ≠ w.heap.size + 1 by omega) (.slice B3 n' d3)).far (p := ⟨g6, 1, none⟩) (show g6 ≠ w.heap.size + 1 by omega) (.slice B4 m' d4))
            refine wpAnyH_ready (rs := [6]) (by kernel_rfl) (by simp) ?_
            refine AllReadyH.cons (o := { dst := none, op := Go.Op.store 46 (Go.Operand.tmp 5) (Go.Operand.tmp 17), type := 0, pos := "law.go:35", after := #[{ on := 4, ground := Go.Ground.data }, { on := 1, ground := Go.Ground.data }, { on := 3, ground := Go.Ground.chain }, { on := 0, ground := Go.Ground.phase }, { on := 1, ground := Go.Ground.phase }, { on := 2, ground := Go.Ground.textOnly Go.Departure.lateStores }, { on := 3, ground := Go.Ground.textOnly Go.Departure.lateStoresUnsure }, { on := 4, ground := Go.Ground.phase }, { on := 5, ground := Go.Ground.phase }], guard := none }) rfl (fun K' hK' => ?_) AllReadyH.nil
            go_simp
            refine hK'.out _ _ (s6) (fun hHeld => ?_)
            clear hK' K'
            try simp only [Act.put, List.setIfInBounds_toArray, List.set_cons_succ, List.set_cons_zero]
            refine wpAnyH_ready (rs := [7]) (by kernel_rfl) (by simp) ?_
            refine AllReadyH.cons (o := { dst := none, op := Go.Op.store 46 (Go.Operand.tmp 6) (Go.Operand.tmp 19), type := 0, pos := "law.go:35", after := #[{ on := 5, ground := Go.Ground.data }, { on := 3, ground := Go.Ground.data }, { on := 6, ground := Go.Ground.chain }, { on := 0, ground := Go.Ground.phase }, { on := 1, ground := Go.Ground.phase }, { on := 2, ground := Go.Ground.phase }, { on := 3, ground := Go.Ground.phase }, { on := 4, ground := Go.Ground.phase }, { on := 5, ground := Go.Ground.phase }, { on := 6, ground := Go.Ground.phase }], guard := none }) rfl (fun K' hK' => ?_) AllReadyH.nil
            go_simp
            refine hK'.out _ _ (s7) (fun hHeld => ?_)
            clear hK' K'
            try simp only [Act.put, List.setIfInBounds_toArray, List.set_cons_succ, List.set_cons_zero]
            refine wpAnyH_done (by kernel_rfl) ?_ _
            refine NoPanic.normal ?_
            exact hrest g5 g6 B1 d1 B2 d2 B3 d3 B4 d4 _ _ _ _ _ _ _ _ _ _ _ _ _ _ _ _ _ _ _ _ _ _ _ _ _ _ _ _ _ _ _ _ _ _ _ _ _ _ _ _ _ _ _ _ _ _ _ _ _ _ _ _ _ _ _ _ _ _ _ (T3.made hL hx hy hx' hy' HB0.out HB.out HP.out HQ.out Rr.out.1 Rr.out.2 Rx.out.1 Rx.out.2 Xg5.out Xg6.out (by omega))
          · go_simp
            have hbn := bnew5 V20 (.cells #[.slice none 0 0, .slice none 0 0] 46)
            have Xg5 := Box.new V20 [.slice none 0 0, .slice none 0 0] 46
            have HB := Lib.hid (HB.out.trans (hbn.mono HB.out.size))
            have HP := Lib.hid (HP.out.step hbn)
            have HQ := Lib.hid (HQ.out.step hbn)
            have Rr := Lib.hid (And.intro (Rr.out.1.sub (frI_below hbn)) (Rr.out.2.sub (frI_below hbn)))
            have Xg6 := Lib.hid (Xg6.out.step hbn)
            have hsn := hbn.size
            have U1 : h1 ≤ (V20.alloc (.cells #[.slice none 0 0, .slice none 0 0] 46)).heap.size := Nat.le_trans U1 hsn
            have U5 : g6 < (V20.alloc (.cells #[.slice none 0 0, .slice none 0 0] 46)).heap.size := Nat.lt_of_lt_of_le U5 hsn
            obtain ⟨g5, hg⟩ : ∃ g, g = V20.heap.size := ⟨_, rfl⟩
            have O14 : h1 ≤ g5 := by omega
            have O54 : g6 < g5 := by omega
            have L4 : w.heap.size + 2 ≤ g5 := by have := LV; omega
            have U4 : g5 < (V20.alloc (.cells #[.slice none 0 0, .slice none 0 0] 46)).heap.size := by rw [hg]; simp
            have LV : w.heap.size + 2 ≤ (V20.alloc (.cells #[.slice none 0 0, .slice none 0 0] 46)).heap.size := by omega
            rw [← hg] at Xg5 ⊢
            have Xg5 := Lib.hid Xg5
            clear hbn hsn hg
            generalize V20.alloc (.cells #[.slice none 0 0, .slice none 0 0] 46) = V25 at *
            have sn := stK HP.out HQ.out
            refine hK'.out _ _ (sn) (fun hHeld => ?_)
            clear hK' K' sn
            try simp only [Act.put, List.setIfInBounds_toArray, List.set_cons_succ, List.set_cons_zero]
            refine wpAnyH_ready (rs := [3]) (by kernel_rfl) (by simp) ?_
            refine AllReadyH.cons (o := { dst := some 19, op := Go.Op.call { callee := Go.Callee.value (Go.Operand.func 24), args := #[Go.Operand.tmp 18], argTypes := #[41] }, type := 46, pos := "law.go:35", after := #[{ on := 2, ground := Go.Ground.data }, { on := 1, ground := Go.Ground.chain }], guard := none }) rfl (fun K' hK' => ?_) AllReadyH.nil
            go_simp
            refine (q3.out V25 (bth5 HB0.out HB.out)).mono ?_
            rintro e V26 ⟨B3, d3, B4, d4, rfl, k1, k2, hbn⟩
            obtain ⟨l3, hl⟩ : ∃ x, x = V25.heap.size := ⟨_, rfl⟩
            obtain ⟨h3, hh⟩ : ∃ x, x = V26.heap.size := ⟨_, rfl⟩
            have Rx := And.intro (k1.sub (frI_of V26 _)) (k2.sub (frI_of V26 _))
            rw [← hl, ← hh] at Rx
            have Rx := Lib.hid Rx
            have O13 : h1 ≤ l3 := by omega
            have O53 : g6 < l3 := by omega
            have O43 : g5 < l3 := by omega
            have HB := Lib.hid (HB.out.trans (hbn.mono HB.out.size))
            have HP := Lib.hid (HP.out.step hbn)
            have HQ := Lib.hid (HQ.out.step hbn)
            have Rr := Lib.hid (And.intro (Rr.out.1.sub (frI_below hbn)) (Rr.out.2.sub (frI_below hbn)))
            have Xg6 := Lib.hid (Xg6.out.step hbn)
            have Xg5 := Lib.hid (Xg5.out.step hbn)
            have hsn := hbn.size
            have U1 : h1 ≤ V26.heap.size := Nat.le_trans U1 hsn
            have U5 : g6 < V26.heap.size := Nat.lt_of_lt_of_le U5 hsn
            have U4 : g5 < V26.heap.size := Nat.lt_of_lt_of_le U4 hsn
            have O33 : l3 ≤ h3 := by omega
            have L3 : w.heap.size + 2 ≤ l3 := by have := LV; omega
            have U3 : h3 ≤ V26.heap.size := by omega
            have LV : w.heap.size + 2 ≤ V26.heap.size := by omega
            clear k1 k2 hbn hsn hl hh
            have sn := stK HP.out HQ.out
            refine hK'.out _ _ (sn) (fun hHeld => ?_)
            clear hK' K' sn
            try simp only [Act.put, List.setIfInBounds_toArray, List.set_cons_succ, List.set_cons_zero]
            have j0 := Xg5.out.two
            have j1 := (Xg5.out 0 _ rfl).2
            have j2 := (Xg5.out 1 _ rfl).2
            have hne : g6 ≠ g5 := by omega
            have Y := (Xg6.out.far (p := ⟨g5, 0, none⟩) (Ne.symm hne) (.slice B1 n d1)).far (p := ⟨g5, 1, none⟩) (Ne.symm hne) (.slice B2 m d2)
            have y0 := Y.two
            have y1 := (Y 0 _ rfl).2
            have y2 := (Y 1 _ rfl).2
            have s6 := stK ((HP.out.far (p := ⟨g5, 0, none⟩) (show g5 ≠ w.heap.size by omega) (.slice B1 n d1)).far (p := ⟨g5, 1, none⟩) (show g5 ≠ w.heap.size by omega) (.slice B2 m d2)) ((HQ.out.far (p := ⟨g5, 0, none⟩) (show g5 ≠ w.heap.size + 1 by omega) (.slice B1 n d1)).far (p := ⟨g5, 1, none⟩) (show g5 ≠ w.heap.size + 1 by omega) (.slice B2 m d2))
            have s7 := stK ((((HP.out.far (p := ⟨g5, 0, none⟩) (show g5 ≠ w.heap.size by omega) (.slice B1 n d1)).far (p := ⟨g5, 1, none⟩) (show g5 ≠ w.heap.size by omega) (.slice B2 m d2)).far (p := ⟨g6, 0, none⟩) (show g6 ≠ w.heap.size by omega) (.slice B3 n' d3)).far (p := ⟨g6, 1, none⟩) (show g6 ≠ w.heap.size by omega) (.slice B4 m' d4)) ((((HQ.out.far (p := ⟨g5, 0, none⟩) (show g5 ≠ w.heap.size + 1 by omega) (.slice B1 n d1)).far (p := ⟨g5, 1, none⟩) (show g5 ≠ w.heap.size + 1 by omega) (.slice B2 m d2)).far (p := ⟨g6, 0, none⟩) (show g6 ≠ w.heap.size + 1 by omega) (.slice B3 n' d3)).far (p := ⟨g6, 1, none⟩) (show g6 ≠ w.heap.size + 1 by omega) (.slice B4 m' d4))
            refine wpAnyH_ready (rs := [6]) (by kernel_rfl) (by simp) ?_
            refine AllReadyH.cons (o := { dst := none, op := Go.Op.store 46 (Go.Operand.tmp 5) (Go.Operand.tmp 17), type := 0, pos := "law.go:35", after := #[{ on := 4, ground := Go.Ground.data }, { on := 1, ground := Go.Ground.data }, { on := 3, ground := Go.Ground.chain }, { on := 0, ground := Go.Ground.phase }, { on := 1, ground := Go.Ground.phase }, { on := 2, ground := Go.Ground.textOnly Go.Departure.lateStores }, { on := 3, ground := Go.Ground.textOnly Go.Departure.lateStoresUnsure }, { on := 4, ground := Go.Ground.phase }, { on := 5, ground := Go.Ground.phase }], guard := none }) rfl (fun K' hK' => ?_) AllReadyH.nil
            go_simp
            refine hK'.out _ _ (s6) (fun hHeld => ?_)
            clear hK' K'
            try simp only [Act.put, List.setIfInBounds_toArray, List.set_cons_succ, List.set_cons_zero]
            refine wpAnyH_ready (rs := [7]) (by kernel_rfl) (by simp) ?_
            refine AllReadyH.cons (o := { dst := none, op := Go.Op.store 46 (Go.Operand.tmp 6) (Go.Operand.tmp 19), type := 0, pos := "law.go:35", after := #[{ on := 5, ground := Go.Ground.data }, { on := 3, ground := Go.Ground.data }, { on := 6, ground := Go.Ground.chain }, { on := 0, ground := Go.Ground.phase }, { on := 1, ground := Go.Ground.phase }, { on := 2, ground := Go.Ground.phase }, { on := 3, ground := Go.Ground.phase }, { on := 4, ground := Go.Ground.phase }, { on := 5, ground := Go.Ground.phase }, { on := 6, ground := Go.Ground.phase }], guard := none }) rfl (fun K' hK' => ?_) AllReadyH.nil
            go_simp
            refine hK'.out _ _ (s7) (fun hHeld => ?_)
            clear hK' K'
            try simp only [Act.put, List.setIfInBounds_toArray, List.set_cons_succ, List.set_cons_zero]
            refine wpAnyH_done (by kernel_rfl) ?_ _
            refine NoPanic.normal ?_
            exact hrest g5 g6 B1 d1 B2 d2 B3 d3 B4 d4 _ _ _ _ _ _ _ _ _ _ _ _ _ _ _ _ _ _ _ _ _ _ _ _ _ _ _ _ _ _ _ _ _ _ _ _ _ _ _ _ _ _ _ _ _ _ _ _ _ _ _ _ _ _ _ _ _ _ _ (T3.made hL hx hy hx' hy' HB0.out HB.out HP.out HQ.out Rr.out.1 Rr.out.2 Rx.out.1 Rx.out.2 Xg5.out Xg6.out (by omega))
      · go_simp
        have hbn := bnew5 V0 (.cells #[.slice none 0 0, .slice none 0 0] 46)
        have Xg5 := Box.new V0 [.slice none 0 0, .slice none 0 0] 46
        have HB := Lib.hid (HB.out.trans (hbn.mono HB.out.size))
        have HP := Lib.hid (HP.out.step hbn)
        have HQ := Lib.hid (HQ.out.step hbn)
        have hsn := hbn.size
        obtain ⟨g5, hg⟩ : ∃ g, g = V0.heap.size := ⟨_, rfl⟩
        have L4 : w.heap.size + 2 ≤ g5 := by have := LV; omega
        have U4 : g5 < (V0.alloc (.cells #[.slice none 0 0, .slice none 0 0] 46)).heap.size := by rw [hg]; simp
        have LV : w.heap.size + 2 ≤ (V0.alloc (.cells #[.slice none 0 0, .slice none 0 0] 46)).heap.size := by omega
        rw [← hg] at Xg5 ⊢
        have Xg5 := Lib.hid Xg5
        clear hbn hsn hg
        generalize V0.alloc (.cells #[.slice none 0 0, .slice none 0 0] 46) = V29 at *
        have sn := stK HP.out HQ.out
        refine hK'.out _ _ (sn) (fun hHeld => ?_)
        clear hK' K' sn
        try simp only [Act.put, List.setIfInBounds_toArray, List.set_cons_succ, List.set_cons_zero]
        refine wpAnyH_ready (rs := [1, 5]) (by kernel_rfl) (by simp) ?_
        refine AllReadyH.cons (o := { dst := some 17, op := Go.Op.call { callee := Go.Callee.value (Go.Operand.func 24), args := #[Go.Operand.tmp 16], argTypes := #[41] }, type := 46, pos := "law.go:35", after := #[{ on := 0, ground := Go.Ground.data }], guard := none }) rfl (fun K' hK' => ?_) (AllReadyH.cons (o := { dst := some 6, op := Go.Op.alloc 46, type := 0, pos := "law.go:35", after := #[], guard := none }) rfl (fun K' hK' => ?_) AllReadyH.nil)
        · go_simp
          refine (q1.out V29 (bth5 HB0.out HB.out)).mono ?_
          rintro e V30 ⟨B1, d1, B2, d2, rfl, k1, k2, hbn⟩
          obtain ⟨l1, hl⟩ : ∃ x, x = V29.heap.size := ⟨_, rfl⟩
          obtain ⟨h1, hh⟩ : ∃ x, x = V30.heap.size := ⟨_, rfl⟩
          have Rr := And.intro (k1.sub (frI_of V30 _)) (k2.sub (frI_of V30 _))
          rw [← hl, ← hh] at Rr
          have Rr := Lib.hid Rr
          have O41 : g5 < l1 := by omega
          have HB := Lib.hid (HB.out.trans (hbn.mono HB.out.size))
          have HP := Lib.hid (HP.out.step hbn)
          have HQ := Lib.hid (HQ.out.step hbn)
          have Xg5 := Lib.hid (Xg5.out.step hbn)
          have hsn := hbn.size
          have U4 : g5 < V30.heap.size := Nat.lt_of_lt_of_le U4 hsn
          have O11 : l1 ≤ h1 := by omega
          have L1 : w.heap.size + 2 ≤ l1 := by have := LV; omega
          have U1 : h1 ≤ V30.heap.size := by omega
          have LV : w.heap.size + 2 ≤ V30.heap.size := by omega
          clear k1 k2 hbn hsn hl hh
          have sn := stK HP.out HQ.out
          refine hK'.out _ _ (sn) (fun hHeld => ?_)
          clear hK' K' sn
          try simp only [Act.put, List.setIfInBounds_toArray, List.set_cons_succ, List.set_cons_zero]
          refine wpAnyH_ready (rs := [3, 5]) (by kernel_rfl) (by simp) ?_
          refine AllReadyH.cons (o := { dst := some 19, op := Go.Op.call { callee := Go.Callee.value (Go.Operand.func 24), args := #[Go.Operand.tmp 18], argTypes := #[41] }, type := 46, pos := "law.go:35", after := #[{ on := 2, ground := Go.Ground.data }, { on := 1, ground := Go.Ground.chain }], guard := none }) rfl (fun K' hK' => ?_) (AllReadyH.cons (o := { dst := some 6, op := Go.Op.alloc 46, type := 0, pos := "law.go:35", after := #[], guard := none }) rfl (fun K' hK' => ?_) AllReadyH.nil)
          · go_simp
            refine (q3.out V30 (bth5 HB0.out HB.out)).mono ?_
            rintro e V31 ⟨B3, d3, B4, d4, rfl, k1, k2, hbn⟩
            obtain ⟨l3, hl⟩ : ∃ x, x = V30.heap.size := ⟨_, rfl⟩
            obtain ⟨h3, hh⟩ : ∃ x, x = V31.heap.size := ⟨_, rfl⟩
            have Rx := And.intro (k1.sub (frI_of V31 _)) (k2.sub (frI_of V31 _))
            rw [← hl, ← hh] at Rx
            have Rx := Lib.hid Rx
            have O43 : g5 < l3 := by omega
            have O13 : h1 ≤ l3 := by omega
            have HB := Lib.hid (HB.out.trans (hbn.mono HB.out.size))
            have HP := Lib.hid (HP.out.step hbn)
            have HQ := Lib.hid (HQ.out.step hbn)
            have Xg5 := Lib.hid (Xg5.out.step hbn)
            have Rr := Lib.hid (And.intro (Rr.out.1.sub (frI_below hbn)) (Rr.out.2.sub (frI_below hbn)))
            have hsn := hbn.size
            have U4 : g5 < V31.heap.size := Nat.lt_of_lt_of_le U4 hsn
            have U1 : h1 ≤ V31.heap.size := Nat.le_trans U1 hsn
            have O33 : l3 ≤ h3 := by omega
            have L3 : w.heap.size + 2 ≤ l3 := by have := LV; omega
            have U3 : h3 ≤ V31.heap.size := by omega
            have LV : w.heap.size + 2 ≤ V31.heap.size := by omega
            clear k1 k2 hbn hsn hl hh
            have sn := stK HP.out HQ.out
            refine hK'.out _ _ (sn) (fun hHeld => ?_)
            clear hK' K' sn
            try simp only [Act.put, List.setIfInBounds_toArray, List.set_cons_succ, List.set_cons_zero]
            refine wpAnyH_ready (rs := [5]) (by kernel_rfl) (by simp) ?_
            refine AllReadyH.cons (o := { dst := some 6, op := Go.Op.alloc 46, type := 0, pos := "law.go:35", after := #[], guard := none }) rfl (fun K' hK' => ?_) AllReadyH.nil
            go_simp
            have hbn := bnew5 V31 (.cells #[.slice none 0 0, .slice none 0 0] 46)
            have Xg6 := Box.new V31 [.slice none 0 0, .slice none 0 0] 46
            have HB := Lib.hid (HB.out.trans (hbn.mono HB.out.size))
            have HP := Lib.hid (HP.out.step hbn)
            have HQ := Lib.hid (HQ.out.step hbn)
            have Xg5 := Lib.hid (Xg5.out.step hbn)
            have Rr := Lib.hid (And.intro (Rr.out.1.sub (frI_below hbn)) (Rr.out.2.sub (frI_below hbn)))
            have Rx := Lib.hid (And.intro (Rx.out.1.sub (frI_below hbn)) (Rx.out.2.sub (frI_below hbn)))
            have hsn := hbn.size
            have U4 : g5 < (V31.alloc (.cells #[.slice none 0 0, .slice none 0 0] 46)).heap.size := Nat.lt_of_lt_of_le U4 hsn
            have U1 : h1 ≤ (V31.alloc (.cells #[.slice none 0 0, .slice none 0 0] 46)).heap.size := Nat.le_trans U1 hsn
            have U3 : h3 ≤ (V31.alloc (.cells #[.slice none 0 0, .slice none 0 0] 46)).heap.size := Nat.le_trans U3 hsn
            obtain ⟨g6, hg⟩ : ∃ g, g = V31.heap.size := ⟨_, rfl⟩
            have O45 : g5 < g6 := by omega
            have O15 : h1 ≤ g6 := by omega
            have O35 : h3 ≤ g6 := by omega
            have L5 : w.heap.size + 2 ≤ g6 := by have := LV; omega
            have U5 : g6 < (V31.alloc (.cells #[.slice none 0 0, .slice none 0 0] 46)).heap.size := by rw [hg]; simp
            have LV : w.heap.size + 2 ≤ (V31.alloc (.cells #[.slice none 0 0, .slice none 0 0] 46)).heap.size := by omega
            rw [← hg] at Xg6 ⊢
            have Xg6 := Lib.hid Xg6
            clear hbn hsn hg
            generalize V31.alloc (.cells #[.slice none 0 0, .slice none 0 0] 46) = V32 at *
            have sn := stK HP.out HQ.out
            refine hK'.out _ _ (sn) (fun hHeld => ?_)
            clear hK' K' sn
            try simp only [Act.put, List.setIfInBounds_toArray, List.set_cons_succ, List.set_cons_zero]
            have j0 := Xg5.out.two
            have j1 := (Xg5.out 0 _ rfl).2
            have j2 := (Xg5.out 1 _ rfl).2
            have hne : g6 ≠ g5 := by omega
            have Y := (Xg6.out.far (p := ⟨g5, 0, none⟩) (Ne.symm hne) (.slice B1 n d1)).far (p := ⟨g5, 1, none⟩) (Ne.symm hne) (.slice B2 m d2)
            have y0 := Y.two
            have y1 := (Y 0 _ rfl).2
            have y2 := (Y 1 _ rfl).2
            have s6 := stK ((HP.out.far (p := ⟨g5, 0, none⟩) (show g5 ≠ w.heap.size by omega) (.slice B1 n d1)).far (p := ⟨g5, 1, none⟩) (show g5 ≠ w.heap.size by omega) (.slice B2 m d2)) ((HQ.out.far (p := ⟨g5, 0, none⟩) (show g5 ≠ w.heap.size + 1 by omega) (.slice B1 n d1)).far (p := ⟨g5, 1, none⟩) (show g5 ≠ w.heap.size + 1 by omega) (.slice B2 m d2))
            have s7 := stK ((((HP.out.far (p := ⟨g5, 0, none⟩) (show g5 ≠ w.heap.size by omega) (.slice B1 n d1)).far (p := ⟨g5, 1, none⟩) (show g5 ≠ w.heap.size by omega) (.slice B2 m d2)).far (p := ⟨g6, 0, none⟩) (show g6 ≠ w.heap.size by omega) (.slice B3 n' d3)).far (p := ⟨g6, 1, none⟩) (show g6 ≠ w.heap.size by omega) (.slice B4 m' d4)) ((((HQ.out.far (p := ⟨g5, 0, none⟩) (show g5 ≠ w.heap.size + 1 by omega) (.slice B1 n d1)).far (p := ⟨g5, 1, none⟩) (show g5 ≠ w.heap.size + 1 by omega) (.slice B2 m d2)).far (p := ⟨g6, 0, none⟩) (show g6 ≠ w.heap.size + 1 by omega) (.slice B3 n' d3)).far (p := ⟨g6, 1, none⟩) (show g6 ≠ w.heap.size + 1 by omega) (.slice B4 m' d4))
            refine wpAnyH_ready (rs := [6]) (by kernel_rfl) (by simp) ?_
            refine AllReadyH.cons (o := { dst := none, op := Go.Op.store 46 (Go.Operand.tmp 5) (Go.Operand.tmp 17), type := 0, pos := "law.go:35", after := #[{ on := 4, ground := Go.Ground.data }, { on := 1, ground := Go.Ground.data }, { on := 3, ground := Go.Ground.chain }, { on := 0, ground := Go.Ground.phase }, { on := 1, ground := Go.Ground.phase }, { on := 2, ground := Go.Ground.textOnly Go.Departure.lateStores }, { on := 3, ground := Go.Ground.textOnly Go.Departure.lateStoresUnsure }, { on := 4, ground := Go.Ground.phase }, { on := 5, ground := Go.Ground.phase }], guard := none }) rfl (fun K' hK' => ?_) AllReadyH.nil
            go_simp
            refine hK'.out _ _ (s6) (fun hHeld => ?_)
            clear hK' K'
            try simp only [Act.put, List.setIfInBounds_toArray, List.set_cons_succ, List.set_cons_zero]
            refine wpAnyH_ready (rs := [7]) (by kernel_rfl) (by simp) ?_
            refine AllReadyH.cons (o := { dst := none, op := Go.Op.store 46 (Go.Operand.tmp 6) (Go.Operand.tmp 19), type := 0, pos := "law.go:35", after := #[{ on := 5, ground := Go.Ground.data }, { on := 3, ground := Go.Ground.data }, { on := 6, ground := Go.Ground.chain }, { on := 0, ground := Go.Ground.phase }, { on := 1, ground := Go.Ground.phase }, { on := 2, ground := Go.Ground.phase }, { on := 3, ground := Go.Ground.phase }, { on := 4, ground := Go.Ground.phase }, { on := 5, ground := Go.Ground.phase }, { on := 6, ground := Go.Ground.phase }], guard := none }) rfl (fun K' hK' => ?_) AllReadyH.nil
            go_simp
            refine hK'.out _ _ (s7) (fun hHeld => ?_)
            clear hK' K'
            try simp only [Act.put, List.setIfInBounds_toArray, List.set_cons_succ, List.set_cons_zero]
            refine wpAnyH_done (by kernel_rfl) ?_ _
            refine NoPanic.normal ?_
            exact hrest g5 g6 B1 d1 B2 d2 B3 d3 B4 d4 _ _ _ _ _ _ _ _ _ _ _ _ _ _ _ _ _ _ _ _ _ _ _ _ _ _ _ _ _ _ _ _ _ _ _ _ _ _ _ _ _ _ _ _ _ _ _ _ _ _ _ _ _ _ _ _ _ _ _ (T3.made hL hx hy hx' hy' HB0.out HB.out HP.out HQ.out Rr.out.1 Rr.out.2 Rx.out.1 Rx.out.2 Xg5.out Xg6.out (by omega))
          · go_simp
            have hbn := bnew5 V30 (.cells #[.slice none 0 0, .slice none 0 0] 46)
            have Xg6 := Box.new V30 [.slice none 0 0, .slice none 0 0] 46
            have HB := Lib.hid (HB.out.trans (hbn.mono HB.out.size))
            have HP := Lib.hid (HP.out.step hbn)
            have HQ := Lib.hid (HQ.out.step hbn)
            have Xg5 := Lib.hid (Xg5.out.step hbn)
            have Rr := Lib.hid (And.intro (Rr.out.1.sub (frI_below hbn)) (Rr.out.2.sub (frI_below hbn)))
            have hsn := hbn.size
            have U4 : g5 < (V30.alloc (.cells #[.slice none 0 0, .slice none 0 0] 46)).heap.size := Nat.lt_of_lt_of_le U4 hsn
            have U1 : h1 ≤ (V30.alloc (.cells #[.slice none 0 0, .slice none 0 0] 46)).heap.size := Nat.le_trans U1 hsn
            obtain ⟨g6, hg⟩ : ∃ g, g = V30.heap.size := ⟨_, rfl⟩
            have O45 : g5 < g6 := by omega
            have O15 : h1 ≤ g6 := by omega
            have L5 : w.heap.size + 2 ≤ g6 := by have := LV; omega
            have U5 : g6 < (V30.alloc (.cells #[.slice none 0 0, .slice none 0 0] 46)).heap.size := by rw [hg]; simp
            have LV : w.heap.size + 2 ≤ (V30.alloc (.cells #[.slice none 0 0, .slice none 0 0] 46)).heap.size := by omega
            rw [← hg] at Xg6 ⊢
            have Xg6 := Lib.hid Xg6
            clear hbn hsn hg
            generalize V30.alloc (.cells #[.slice none 0 0, .slice none 0 0] 46) = V35 at *
            have sn := stK HP.out HQ.out
            refine hK'.out _ _ (sn) (fun hHeld => ?_)
            clear hK' K' sn
            try simp only [Act.put, List.setIfInBounds_toArray, List.set_cons_succ, List.set_cons_zero]
            refine wpAnyH_ready (rs := [3]) (by kernel_rfl) (by simp) ?_
            refine AllReadyH.cons (o := { dst := some 19, op := Go.Op.call { callee := Go.Callee.value (Go.Operand.func 24), args := #[Go.Operand.tmp 18], argTypes := #[41] }, type := 46, pos := "law.go:35", after := #[{ on := 2, ground := Go.Ground.data }, { on := 1, ground := Go.Ground.chain }], guard := none }) rfl (fun K' hK' => ?_) AllReadyH.nil
            go_simp
            refine (q3.out V35 (bth5 HB0.out HB.out)).mono ?_
            rintro e V36 ⟨B3, d3, B4, d4, rfl, k1, k2, hbn⟩
            obtain ⟨l3, hl⟩ : ∃ x, x = V35.heap.size := ⟨_, rfl⟩
            obtain ⟨h3, hh⟩ : ∃ x, x = V36.heap.size := ⟨_, rfl⟩
            have Rx := And.intro (k1.sub (frI_of V36 _)) (k2.sub (frI_of V36 _))
            rw [← hl, ← hh] at Rx
            have Rx := Lib.hid Rx
            have O43 : g5 < l3 := by omega
            have O13 : h1 ≤ l3 := by omega
            have O53 : g6 < l3 := by omega
            have HB := Lib.hid (HB.out.trans (hbn.mono HB.out.size))
            have HP := Lib.hid (HP.out.step hbn)
            have HQ := Lib.hid (HQ.out.step hbn)
            have Xg5 := Lib.hid (Xg5.out.step hbn)
            have Rr := Lib.hid (And.intro (Rr.out.1.sub (frI_below hbn)) (Rr.out.2.sub (frI_below hbn)))
            have Xg6 := Lib.hid (Xg6.out.step hbn)
            have hsn := hbn.size
            have U4 : g5 < V36.heap.size := Nat.lt_of_lt_of_le U4 hsn
            have U1 : h1 ≤ V36.heap.size := Nat.le_trans U1 hsn
            have U5 : g6 < V36.heap.size := Nat.lt_of_lt_of_le U5 hsn
            have O33 : l3 ≤ h3 := by omega
            have L3 : w.heap.size + 2 ≤ l3 := by have := LV; omega
            have U3 : h3 ≤ V36.heap.size := by omega
            have LV : w.heap.size + 2 ≤ V36.heap.size := by omega
            clear k1 k2 hbn hsn hl hh
            have sn := stK HP.out HQ.out
            refine hK'.out _ _ (sn) (fun hHeld => ?_)
            clear hK' K' sn
            try simp only [Act.put, List.setIfInBounds_toArray, List.set_cons_succ, List.set_cons_zero]
            have j0 := Xg5.out.two
            have j1 := (Xg5.out 0 _ rfl).2
            have j2 := (Xg5.out 1 _ rfl).2
            have hne : g6 ≠ g5 := by omega
            have Y := (Xg6.out.far (p := ⟨g5, 0, none⟩) (Ne.symm hne) (.slice B1 n d1)).far (p := ⟨g5, 1, none⟩) (Ne.symm hne) (.slice B2 m d2)
            have y0 := Y.two
            have y1 := (Y 0 _ rfl).2
            have y2 := (Y 1 _ rfl).2
            have s6 := stK ((HP.out.far (p := ⟨g5, 0, none⟩) (show g5 ≠ w.heap.size by omega) (.slice B1 n d1)).far (p := ⟨g5, 1, none⟩) (show g5 ≠ w.heap.size by omega) (.slice B2 m d2)) ((HQ.out.far (p := ⟨g5, 0, none⟩) (show g5 ≠ w.heap.size + 1 by omega) (.slice B1 n d1)).far (p := ⟨g5, 1, none⟩) (show g5 ≠ w.heap.size + 1 by omega) (.slice B2 m d2))
            have s7 := stK ((((HP.out.far (p := ⟨g5, 0, none⟩) (show g5 ≠ w.heap.size by omega) (.slice B1 n d1)).far (p := ⟨g5, 1, none⟩) (show g5 ≠ w.heap.size by omega) (.slice B2 m d2)).far (p := ⟨g6, 0, none⟩) (show g6 ≠ w.heap.size by omega) (.slice B3 n' d3)).far (p := ⟨g6, 1, none⟩) (show g6 ≠ w.heap.size by omega) (.slice B4 m' d4)) ((((HQ.out.far (p := ⟨g5, 0, none⟩) (show g5 ≠ w.heap.size + 1 by omega) (.slice B1 n d1)).far (p := ⟨g5, 1, none⟩) (show g5 ≠ w.heap.size + 1 by omega) (.slice B2 m d2)).far (p := ⟨g6, 0, none⟩) (show g6 ≠ w.heap.size + 1 by omega) (.slice B3 n' d3)).far (p := ⟨g6, 1, none⟩) (show g6 ≠ w.heap.size + 1 by omega) (.slice B4 m' d4))
            refine wpAnyH_ready (rs := [6]) (by kernel_rfl) (by simp) ?_
            refine AllReadyH.cons (o := { dst := none, op := Go.Op.store 46 (Go.Operand.tmp 5) (Go.Operand.tmp 17), type := 0, pos := "law.go:35", after := #[{ on := 4, ground := Go.Ground.data }, { on := 1, ground := Go.Ground.data }, { on := 3, ground := Go.Ground.chain }, { on := 0, ground := Go.Ground.phase }, { on := 1, ground := Go.Ground.phase }, { on := 2, ground := Go.Ground.textOnly Go.Departure.lateStores }, { on := 3, ground := Go.Ground.textOnly Go.Departure.lateStoresUnsure }, { on := 4, ground := Go.Ground.phase }, { on := 5, ground := Go.Ground.phase }], guard := none }) rfl (fun K' hK' => ?_) AllReadyH.nil
            go_simp
            refine hK'.out _ _ (s6) (fun hHeld => ?_)
            clear hK' K'
            try simp only [Act.put, List.setIfInBounds_toArray, List.set_cons_succ, List.set_cons_zero]
            refine wpAnyH_ready (rs := [7]) (by kernel_rfl) (by simp) ?_
            refine AllReadyH.cons (o := { dst := none, op := Go.Op.store 46 (Go.Operand.tmp 6) (Go.Operand.tmp 19), type := 0, pos := "law.go:35", after := #[{ on := 5, ground := Go.Ground.data }, { on := 3, ground := Go.Ground.data }, { on := 6, ground := Go.Ground.chain }, { on := 0, ground := Go.Ground.phase }, { on := 1, ground := Go.Ground.phase }, { on := 2, ground := Go.Ground.phase }, { on := 3, ground := Go.Ground.phase }, { on := 4, ground := Go.Ground.phase }, { on := 5, ground := Go.Ground.phase }, { on := 6, ground := Go.Ground.phase }], guard := none }) rfl (fun K' hK' => ?_) AllReadyH.nil
            go_simp
            refine hK'.out _ _ (s7) (fun hHeld => ?_)
            clear hK' K'
            try simp only [Act.put, List.setIfInBounds_toArray, List.set_cons_succ, List.set_cons_zero]
            refine wpAnyH_done (by kernel_rfl) ?_ _
            refine NoPanic.normal ?_
            exact hrest g5 g6 B1 d1 B2 d2 B3 d3 B4 d4 _ _ _ _ _ _ _ _ _ _ _ _ _ _ _ _ _ _ _ _ _ _ _ _ _ _ _ _ _ _ _ _ _ _ _ _ _ _ _ _ _ _ _ _ _ _ _ _ _ _ _ _ _ _ _ _ _ _ _ (T3.made hL hx hy hx' hy' HB0.out HB.out HP.out HQ.out Rr.out.1 Rr.out.2 Rx.out.1 Rx.out.2 Xg5.out Xg6.out (by omega))
        · go_simp
          have hbn := bnew5 V29 (.cells #[.slice none 0 0, .slice none 0 0] 46)
          have Xg6 := Box.new V29 [.slice none 0 0, .slice none 0 0] 46
          have HB := Lib.hid (HB.out.trans (hbn.mono HB.out.size))
          have HP := Lib.hid (HP.out.step hbn)
          have HQ := Lib.hid (HQ.out.step hbn)
          have Xg5 := Lib.hid (Xg5.out.step hbn)
          have hsn := hbn.size
          have U4 : g5 < (V29.alloc (.cells #[.slice none 0 0, .slice none 0 0] 46)).heap.size := Nat.lt_of_lt_of_le U4 hsn
          obtain ⟨g6, hg⟩ : ∃ g, g = V29.heap.size := ⟨_, rfl⟩
          have O45 : g5 < g6 := by omega
          have L5 : w.heap.size + 2 ≤ g6 := by have := LV; omega
          have U5 : g6 < (V29.alloc (.cells #[.slice none 0 0, .slice none 0 0] 46)).heap.size := by rw [hg]; simp
          have LV : w.heap.size + 2 ≤ (V29.alloc (.cells #[.slice none 0 0, .slice none 0 0] 46)).heap.size := by omega
          rw [← hg] at Xg6 ⊢
          have Xg6 := Lib.hid Xg6
          clear hbn hsn hg
          generalize V29.alloc (.cells #[.slice none 0 0, .slice none 0 0] 46) = V39 at *
          have sn := stK HP.out HQ.out
          refine hK'.out _ _ (sn) (fun hHeld => ?_)
          clear hK' K' sn
          try simp only [Act.put, List.setIfInBounds_toArray, List.set_cons_succ, List.set_cons_zero]
          refine wpAnyH_ready (rs := [1]) (by kernel_rfl) (by simp) ?_
          refine AllReadyH.cons (o := { dst := some 17, op := Go.Op.call { callee := Go.Callee.value (Go.Operand.func 24), args := #[Go.Operand.tmp 16], argTypes := #[41] }, type := 46, pos := "law.go:35", after := #[{ on := 0, ground := Go.Ground.data }], guard := none }) rfl (fun K' hK' => ?_) AllReadyH.nil
          go_simp
          refine (q1.out V39 (bth5 HB0.out HB.out)).mono ?_
          rintro e V40 ⟨B1, d1, B2, d2, rfl, k1, k2, hbn⟩
          obtain ⟨l1, hl⟩ : ∃ x, x = V39.heap.size := ⟨_, rfl⟩
          obtain ⟨h1, hh⟩ : ∃ x, x = V40.heap.size := ⟨_, rfl⟩
          have Rr := And.intro (k1.sub (frI_of V40 _)) (k2.sub (frI_of V40 _))
          rw [← hl, ← hh] at Rr
          have Rr := Lib.hid Rr
          have O41 : g5 < l1 := by omega
          have O51 : g6 < l1 := by omega
          have HB := Lib.hid (HB.out.trans (hbn.mono HB.out.size))
          have HP := Lib.hid (HP.out.step hbn)
          have HQ := Lib.hid (HQ.out.step hbn)
          have Xg5 := Lib.hid (Xg5.out.step hbn)
          have Xg6 := Lib.hid (Xg6.out.step hbn)
          have hsn := hbn.size
          have U4 : g5 < V40.heap.size := Nat.lt_of_lt_of_le U4 hsn
          have U5 : g6 < V40.heap.size := Nat.lt_of_lt_of_le U5 hsn
          have O11 : l1 ≤ h1 := by omega
          have L1 : w.heap.size + 2 ≤ l1 := by have := LV; omega
          have U1 : h1 ≤ V40.heap.size := by omega
          have LV : w.heap.size + 2 ≤ V40.heap.size := by omega
          clear k1 k2 hbn hsn hl hh
          have sn := stK HP.out HQ.out
          refine hK'.out _ _ (sn) (fun hHeld => ?_)
          clear hK' K' sn
          try simp only [Act.put, List.setIfInBounds_toArray, List.set_cons_succ, List.set_cons_zero]
          refine wpAnyH_ready (rs := [3]) (by kernel_rfl) (by simp) ?_
          refine AllReadyH.cons (o := { dst := some 19, op := Go.Op.call { callee := Go.Callee.value (Go.Operand.func 24), args := #[Go.Operand.tmp 18], argTypes := #[41] }, type := 46, pos := "law.go:35", after := #[{ on := 2, ground := Go.Ground.data }, { on := 1, ground := Go.Ground.chain }], guard := none }) rfl (fun K' hK' => ?_) AllReadyH.nil
          go_simp
          refine (q3.out V40 (bth5 HB0.out HB.out)).mono ?_
          rintro e V41 ⟨B3, d3, B4, d4, rfl, k1, k2, hbn⟩
          obtain ⟨l3, hl⟩ : ∃ x, x = V40.heap.size := ⟨_, rfl⟩
          obtain ⟨h3, hh⟩ : ∃ x, x = V41.heap.size := ⟨_, rfl⟩
          have Rx := And.intro (k1.sub (frI_of V41 _)) (k2.sub (frI_of V41 _))
          rw [← hl, ← hh] at Rx
          have Rx := Lib.hid Rx
          have O43 : g5 < l3 := by omega
          have O53 : g6 < l3 := by omega
          have O13 : h1 ≤ l3 := by omega
          have HB := Lib.hid (HB.out.trans (hbn.mono HB.out.size))
          have HP := Lib.hid (HP.out.step hbn)
          have HQ := Lib.hid (HQ.out.step hbn)
          have Xg5 := Lib.hid (Xg5.out.step hbn)
          have Xg6 := Lib.hid (Xg6.out.step hbn)
          have Rr := Lib.hid (And.intro (Rr.out.1.sub (frI_below hbn)) (Rr.out.2.sub (frI_below hbn)))
          have hsn := hbn.size
          have U4 : g5 < V41.heap.size := Nat.lt_of_lt_of_le U4 hsn
          have U5 : g6 < V41.heap.size := Nat.lt_of_lt_of_le U5 hsn
          have U1 : h1 ≤ V41.heap.size := Nat.le_trans U1 hsn
          have O33 : l3 ≤ h3 := by omega
          have L3 : w.heap.size + 2 ≤ l3 := by have := LV; omega
          have U3 : h3 ≤ V41.heap.size := by omega
          have LV : w.heap.size + 2 ≤ V41.heap.size := by omega
          clear k1 k2 hbn hsn hl hh
          have sn := stK HP.out HQ.out
          refine hK'.out _ _ (sn) (fun hHeld => ?_)
          clear hK' K' sn
          try simp only [Act.put, List.setIfInBounds_toArray, List.set_cons_succ, List.set_cons_zero]
          have j0 := Xg5.out.two
          have j1 := (Xg5.out 0 _ rfl).2
          have j2 := (Xg5.out 1 _ rfl).2
          have hne : g6 ≠ g5 := by omega
          have Y := (Xg6.out.far (p := ⟨g5, 0, none⟩) (Ne.symm hne) (.slice B1 n d1)).far (p := ⟨g5, 1, none⟩) (Ne.symm hne) (.slice B2 m d2)
          have y0 := Y.two
          have y1 := (Y 0 _ rfl).2
          have y2 := (Y 1 _ rfl).2
          have s6 := stK ((HP.out.far (p := ⟨g5, 0, none⟩) (show g5 ≠ w.heap.size by omega) (.slice B1 n d1)).far (p := ⟨g5, 1, none⟩) (show g5 ≠ w.heap.size by omega) (.slice B2 m d2)) ((HQ.out.far (p := ⟨g5, 0, none⟩) (show g5 ≠ w.heap.size + 1 by omega) (.slice B1 n d1)).far (p := ⟨g5, 1, none⟩) (show g5 ≠ w.heap.size + 1 by omega) (.slice B2 m d2))
          have s7 := stK ((((HP.out.far (p := ⟨g5, 0, none⟩) (show g5 ≠ w.heap.size by omega) (.slice B1 n d1)).far (p := ⟨g5, 1, none⟩) (show g5 ≠ w.heap.size by omega) (.slice B2 m d2)).far (p := ⟨g6, 0, none⟩) (show g6 ≠ w.heap.size by omega) (.slice B3 n' d3)).far (p := ⟨g6, 1, none⟩) (show g6 ≠ w.heap.size by omega) (.slice B4 m' d4)) ((((HQ.out.far (p := ⟨g5, 0, none⟩) (show g5 ≠ w.heap.size + 1 by omega) (.slice B1 n d1)).far (p := ⟨g5, 1, none⟩) (show g5 ≠ w.heap.size + 1 by omega) (.slice B2 m d2)).far (p := ⟨g6, 0, none⟩) (show g6 ≠ w.heap.size + 1 by omega) (.slice B3 n' d3)).far (p := ⟨g6, 1, none⟩) (show g6 ≠ w.heap.size + 1 by omega) (.slice B4 m' d4))
          refine wpAnyH_ready (rs := [6]) (by kernel_rfl) (by simp) ?_
          refine AllReadyH.cons (o := { dst := none, op := Go.Op.store 46 (Go.Operand.tmp 5) (Go.Operand.tmp 17), type := 0, pos := "law.go:35", after := #[{ on := 4, ground := Go.Ground.data }, { on := 1, ground := Go.Ground.data }, { on := 3, ground := Go.Ground.chain }, { on := 0, ground := Go.Ground.phase }, { on := 1, ground := Go.Ground.phase }, { on := 2, ground := Go.Ground.textOnly Go.Departure.lateStores }, { on := 3, ground := Go.Ground.textOnly Go.Departure.lateStoresUnsure }, { on := 4, ground := Go.Ground.phase }, { on := 5, ground := Go.Ground.phase }], guard := none }) rfl (fun K' hK' => ?_) AllReadyH.nil
          go_simp
          refine hK'.out _ _ (s6) (fun hHeld => ?_)
          clear hK' K'
          try simp only [Act.put, List.setIfInBounds_toArray, List.set_cons_succ, List.set_cons_zero]
          refine wpAnyH_ready (rs := [7]) (by kernel_rfl) (by simp) ?_
          refine AllReadyH.cons (o := { dst := none, op := Go.Op.store 46 (Go.Operand.tmp 6) (Go.Operand.tmp 19), type := 0, pos := "law.go:35", after := #[{ on := 5, ground := Go.Ground.data }, { on := 3, ground := Go.Ground.data }, { on := 6, ground := Go.Ground.chain }, { on := 0, ground := Go.Ground.phase }, { on := 1, ground := Go.Ground.phase }, { on := 2, ground := Go.Ground.phase }, { on := 3, ground := Go.Ground.phase }, { on := 4, ground := Go.Ground.phase }, { on := 5, ground := Go.Ground.phase }, { on := 6, ground := Go.Ground.phase }], guard := none }) rfl (fun K' hK' => ?_) AllReadyH.nil
          go_simp
          refine hK'.out _ _ (s7) (fun hHeld => ?_)
          clear hK' K'
          try simp only [Act.put, List.setIfInBounds_toArray, List.set_cons_succ, List.set_cons_zero]
          refine wpAnyH_done (by kernel_rfl) ?_ _
          refine NoPanic.normal ?_
          exact hrest g5 g6 B1 d1 B2 d2 B3 d3 B4 d4 _ _ _ _ _ _ _ _ _ _ _ _ _ _ _ _ _ _ _ _ _ _ _ _ _ _ _ _ _ _ _ _ _ _ _ _ _ _ _ _ _ _ _ _ _ _ _ _ _ _ _ _ _ _ _ _ _ _ _ (T3.made hL hx hy hx' hy' HB0.out HB.out HP.out HQ.out Rr.out.1 Rr.out.2 Rx.out.1 Rx.out.2 Xg5.out Xg6.out (by omega))
      · go_simp
        have hbn := bnew5 V0 (.cells #[.slice none 0 0, .slice none 0 0] 46)
        have Xg6 := Box.new V0 [.slice none 0 0, .slice none 0 0] 46
        have HB := Lib.hid (HB.out.trans (hbn.mono HB.out.size))
        have HP := Lib.hid (HP.out.step hbn)
        have HQ := Lib.hid (HQ.out.step hbn)
        have hsn := hbn.size
        obtain ⟨g6, hg⟩ : ∃ g, g = V0.heap.size := ⟨_, rfl⟩
        have L5 : w.heap.size + 2 ≤ g6 := by have := LV; omega
        have U5 : g6 < (V0.alloc (.cells #[.slice none 0 0, .slice none 0 0] 46)).heap.size := by rw [hg]; simp
        have LV : w.heap.size + 2 ≤ (V0.alloc (.cells #[.slice none 0 0, .slice none 0 0] 46)).heap.size := by omega
        rw [← hg] at Xg6 ⊢
        have Xg6 := Lib.hid Xg6
        clear hbn hsn hg
        generalize V0.alloc (.cells #[.slice none 0 0, .slice none 0 0] 46) = V44 at *
        have sn := stK HP.out HQ.out
        refine hK'.out _ _ (sn) (fun hHeld => ?_)
        clear hK' K' sn
        try simp only [Act.put, List.setIfInBounds_toArray, List.set_cons_succ, List.set_cons_zero]
        refine wpAnyH_ready (rs := [1, 4]) (by kernel_rfl) (by simp) ?_
        refine AllReadyH.cons (o := { dst := some 17, op := Go.Op.call { callee := Go.Callee.value (Go.Operand.func 24), args := #[Go.Operand.tmp 16], argTypes := #[41] }, type := 46, pos := "law.go:35", after := #[{ on := 0, ground := Go.Ground.data }], guard := none }) rfl (fun K' hK' => ?_) (AllReadyH.cons (o := { dst := some 5, op := Go.Op.alloc 46, type := 0, pos := "law.go:35", after := #[], guard := none }) rfl (fun K' hK' => ?_) AllReadyH.nil)
        · go_simp
          refine (q1.out V44 (bth5 HB0.out HB.out)).mono ?_
          rintro e V45 ⟨B1, d1, B2, d2, rfl, k1, k2, hbn⟩
          obtain ⟨l1, hl⟩ : ∃ x, x = V44.heap.size := ⟨_, rfl⟩
          obtain ⟨h1, hh⟩ : ∃ x, x = V45.heap.size := ⟨_, rfl⟩
          have Rr := And.intro (k1.sub (frI_of V45 _)) (k2.sub (frI_of V45 _))
          rw [← hl, ← hh] at Rr
          have Rr := Lib.hid Rr
          have O51 : g6 < l1 := by omega
          have HB := Lib.hid (HB.out.trans (hbn.mono HB.out.size))
          have HP := Lib.hid (HP.out.step hbn)
          have HQ := Lib.hid (HQ.out.step hbn)
          have Xg6 := Lib.hid (Xg6.out.step hbn)
          have hsn := hbn.size
          have U5 : g6 < V45.heap.size := Nat.lt_of_lt_of_le U5 hsn
          have O11 : l1 ≤ h1 := by omega
          have L1 : w.heap.size + 2 ≤ l1 := by have := LV; omega
          have U1 : h1 ≤ V45.heap.size := by omega
          have LV : w.heap.size + 2 ≤ V45.heap.size := by omega
          clear k1 k2 hbn hsn hl hh
          have sn := stK HP.out HQ.out
          refine hK'.out _ _ (sn) (fun hHeld => ?_)
          clear hK' K' sn
          try simp only [Act.put, List.setIfInBounds_toArray, List.set_cons_succ, List.set_cons_zero]
          refine wpAnyH_ready (rs := [3, 4]) (by kernel_rfl) (by simp) ?_
          refine AllReadyH.cons (o := { dst := some 19, op := Go.Op.call { callee := Go.Callee.value (Go.Operand.func 24), args := #[Go.Operand.tmp 18], argTypes := #[41] }, type := 46, pos := "law.go:35", after := #[{ on := 2, ground := Go.Ground.data }, { on := 1, ground := Go.Ground.chain }], guard := none }) rfl (fun K' hK' => ?_) (AllReadyH.cons (o := { dst := some 5, op := Go.Op.alloc 46, type := 0, pos := "law.go:35", after := #[], guard := none }) rfl (fun K' hK' => ?_) AllReadyH.nil)
          · go_simp
            refine (q3.out V45 (bth5 HB0.out HB.out)).mono ?_
            rintro e V46 ⟨B3, d3, B4, d4, rfl, k1, k2, hbn⟩
            obtain ⟨l3, hl⟩ : ∃ x, x = V45.heap.size := ⟨_, rfl⟩
            obtain ⟨h3, hh⟩ : ∃ x, x = V46.heap.size := ⟨_, rfl⟩
            have Rx := And.intro (k1.sub (frI_of V46 _)) (k2.sub (frI_of V46 _))
            rw [← hl, ← hh] at Rx
            have Rx := Lib.hid Rx
            have O53 : g6 < l3 := by omega
            have O13 : h1 ≤ l3 := by omega
            have HB := Lib.hid (HB.out.trans (hbn.mono HB.out.size))
            have HP := Lib.hid (HP.out.step hbn)
            have HQ := Lib.hid (HQ.out.step hbn)
            have Xg6 := Lib.hid (Xg6.out.step hbn)
            have Rr := Lib.hid (And.intro (Rr.out.1.sub (frI_below hbn)) (Rr.out.2.sub (frI_below hbn)))
            have hsn := hbn.size
            have U5 : g6 < V46.heap.size := Nat.lt_of_lt_of_le U5 hsn
            have U1 : h1 ≤ V46.heap.size := Nat.le_trans U1 hsn
            have O33 : l3 ≤ h3 := by omega
            have L3 : w.heap.size + 2 ≤ l3 := by have := LV; omega
            have U3 : h3 ≤ V46.heap.size := by omega
            have LV : w.heap.size + 2 ≤ V46.heap.size := by omega
            clear k1 k2 hbn hsn hl hh
            have sn := stK HP.out HQ.out
            refine hK'.out _ _ (sn) (fun hHeld => ?_)
            clear hK' K' sn
            try simp only [Act.put, List.setIfInBounds_toArray, List.set_cons_succ, List.set_cons_zero]
            refine wpAnyH_ready (rs := [4]) (by kernel_rfl) (by simp) ?_
            refine AllReadyH.cons (o := { dst := some 5, op := Go.Op.alloc 46, type := 0, pos := "law.go:35", after := #[], guard := none }) rfl (fun K' hK' => ?_) AllReadyH.nil
            go_simp
            have hbn := bnew5 V46 (.cells #[.slice none 0 0, .slice none 0 0] 46)
            have Xg5 := Box.new V46 [.slice none 0 0, .slice none 0 0] 46
            have HB := Lib.hid (HB.out.trans (hbn.mono HB.out.size))
            have HP := Lib.hid (HP.out.step hbn)
            have HQ := Lib.hid (HQ.out.step hbn)
            have Xg6 := Lib.hid (Xg6.out.step hbn)
            have Rr := Lib.hid (And.intro (Rr.out.1.sub (frI_below hbn)) (Rr.out.2.sub (frI_below hbn)))
            have Rx := Lib.hid (And.intro (Rx.out.1.sub (frI_below hbn)) (Rx.out.2.sub (frI_below hbn)))
            have hsn := hbn.size
            have U5 : g6 < (V46.alloc (.cells #[.slice none 0 0, .slice none 0 0] 46)).heap.size := Nat.lt_of_lt_of_le U5 hsn
            have U1 : h1 ≤ (V46.alloc (.cells #[.slice none 0 0, .slice none 0 0] 46)).heap.size := Nat.le_trans U1 hsn
            have U3 : h3 ≤ (V46.alloc (.cells #[.slice none 0 0, .slice none 0 0] 46)).heap.size := Nat.le_trans U3 hsn
            obtain ⟨g5, hg⟩ : ∃ g, g = V46.heap.size := ⟨_, rfl⟩
            have O54 : g6 < g5 := by omega
            have O14 : h1 ≤ g5 := by omega
            have O34 : h3 ≤ g5 := by omega
            have L4 : w.heap.size + 2 ≤ g5 := by have := LV; omega
            have U4 : g5 < (V46.alloc (.cells #[.slice none 0 0, .slice none 0 0] 46)).heap.size := by rw [hg]; simp
            have LV : w.heap.size + 2 ≤ (V46.alloc (.cells #[.slice none 0 0, .slice none 0 0] 46)).heap.size := by omega
            rw [← hg] at Xg5 ⊢
            have Xg5 := Lib.hid Xg5
            clear hbn hsn hg
            generalize V46.alloc (.cells #[.slice none 0 0, .slice none 0 0] 46) = V47 at *
            have sn := stK HP.out HQ.out
            refine hK'.out _ _ (sn) (fun hHeld => ?_)
            clear hK' K' sn
            try simp only [Act.put, List.setIfInBounds_toArray, List.set_cons_succ, List.set_cons_zero]
            have j0 := Xg5.out.two
            have j1 := (Xg5.out 0 _ rfl).2
            have j2 := (Xg5.out 1 _ rfl).2
            have hne : g6 ≠ g5 := by omega
            have Y := (Xg6.out.far (p := ⟨g5, 0, none⟩) (Ne.symm hne) (.slice B1 n d1)).far (p := ⟨g5, 1, none⟩) (Ne.symm hne) (.slice B2 m d2)
            have y0 := Y.two
            have y1 := (Y 0 _ rfl).2
            have y2 := (Y 1 _ rfl).2
            have s6 := stK ((HP.out.far (p := ⟨g5, 0, none⟩) (show g5 ≠ w.heap.size by omega) (.slice B1 n d1)).far (p := ⟨g5, 1, none⟩) (show g5 ≠ w.heap.size by omega) (.slice B2 m d2)) ((HQ.out.far (p := ⟨g5, 0, none⟩) (show g5 ≠ w.heap.size + 1 by omega) (.slice B1 n d1)).far (p := ⟨g5, 1, none⟩) (show g5 ≠ w.heap.size + 1 by omega) (.slice B2 m d2))
            have s7 := stK ((((HP.out.far (p := ⟨g5, 0, none⟩) (show g5 ≠ w.heap.size by omega) (.slice B1 n d1)).far (p := ⟨g5, 1, none⟩) (show g5 ≠ w.heap.size by omega) (.slice B2 m d2)).far (p := ⟨g6, 0, none⟩) (show g6 ≠ w.heap.size by omega) (.slice B3 n' d3)).far (p := ⟨g6, 1, none⟩) (show g6 ≠ w.heap.size by omega) (.slice B4 m' d4)) ((((HQ.out.far (p := ⟨g5, 0, none⟩) (show g5 ≠ w.heap.size + 1 by omega) (.slice B1 n d1)).far (p := ⟨g5, 1, none⟩) (show g5 ≠ w.heap.size + 1 by omega) (.slice B2 m d2)).far (p := ⟨g6, 0, none⟩) (show g6 ≠ w.heap.size + 1 by omega) (.slice B3 n' d3)).far (p := ⟨g6, 1, none⟩) (show g6 ≠ w.heap.size + 1 by omega) (.slice B4 m' d4))
            refine wpAnyH_ready (rs := [6]) (by kernel_rfl) (by simp) ?_
            refine AllReadyH.cons (o := { dst := none, op := Go.Op.store 46 (Go.Operand.tmp 5) (Go.Operand.tmp 17), type := 0, pos := "law.go:35", after := #[{ on := 4, ground := Go.Ground.data }, { on := 1, ground := Go.Ground.data }, { on := 3, ground := Go.Ground.chain }, { on := 0, ground := Go.Ground.phase }, { on := 1, ground := Go.Ground.phase }, { on := 2, ground := Go.Ground.textOnly Go.Departure.lateStores }, { on := 3, ground := Go.Ground.textOnly Go.Departure.lateStoresUnsure }, { on := 4, ground := Go.Ground.phase }, { on := 5, ground := Go.Ground.phase }], guard := none }) rfl (fun K' hK' => ?_) AllReadyH.nil
            go_simp
            refine hK'.out _ _ (s6) (fun hHeld => ?_)
            clear hK' K'
            try simp only [Act.put, List.setIfInBounds_toArray, List.set_cons_succ, List.set_cons_zero]
            refine wpAnyH_ready (rs := [7]) (by kernel_rfl) (by simp) ?_
            refine AllReadyH.cons (o := { dst := none, op := Go.Op.store 46 (Go.Operand.tmp 6) (Go.Operand.tmp 19), type := 0, pos := "law.go:35", after := #[{ on := 5, ground := Go.Ground.data }, { on := 3, ground := Go.Ground.data }, { on := 6, ground := Go.Ground.chain }, { on := 0, ground := Go.Ground.phase }, { on := 1, ground := Go.Ground.phase }, { on := 2, ground := Go.Ground.phase }, { on := 3, ground := Go.Ground.phase }, { on := 4, ground := Go.Ground.phase }, { on := 5, ground := Go.Ground.phase }, { on := 6, ground := Go.Ground.phase }], guard := none }) rfl (fun K' hK' => ?_) AllReadyH.nil
            go_simp
            refine hK'.out _ _ (s7) (fun hHeld => ?_)
            clear hK' K'
            try simp only [Act.put, List.setIfInBounds_toArray, List.set_cons_succ, List.set_cons_zero]
            refine wpAnyH_done (by kernel_rfl) ?_ _
            refine NoPanic.normal ?_
            exact hrest g5 g6 B1 d1 B2 d2 B3 d3 B4 d4 _ _ _ _ _ _ _ _ _ _ _ _ _ _ _ _ _ _ _ _ _ _ _ _ _ _ _ _ _ _ _ _ _ _ _ _ _ _ _ _ _ _ _ _ _ _ _ _ _ _ _ _ _ _ _ _ _ _ _ (T3.made hL hx hy hx' hy' HB0.out HB.out HP.out HQ.out Rr.out.1 Rr.out.2 Rx.out.1 Rx.out.2 Xg5.out Xg6.out (by omega))
          · go_simp
            have hbn := bnew5 V45 (.cells #[.slice none 0 0, .slice none 0 0] 46)
            have Xg5 := Box.new V45 [.slice none 0 0, .slice none 0 0] 46
            have HB := Lib.hid (HB.out.trans (hbn.mono HB.out.size))
            have HP := Lib.hid (HP.out.step hbn)
            have HQ := Lib.hid (HQ.out.step hbn)
            have Xg6 := Lib.hid (Xg6.out.step hbn)
            have Rr := Lib.hid (And.intro (Rr.out.1.sub (frI_below hbn)) (Rr.out.2.sub (frI_below hbn)))
            have hsn := hbn.size
            have U5 : g6 < (V45.alloc (.cells #[.slice none 0 0, .slice none 0 0] 46)).heap.size := Nat.lt_of_lt_of_le U5 hsn
            have U1 : h1 ≤ (V45.alloc (.cells #[.slice none 0 0, .slice none 0 0] 46)).heap.size := Nat.le_trans U1 hsn
            obtain ⟨g5, hg⟩ : ∃ g, g = V45.heap.size := ⟨_, rfl⟩
            have O54 : g6 < g5 := by omega
            have O14 : h1 ≤ g5 := by omega
            have L4 : w.heap.size + 2 ≤ g5 := by have := LV; omega
            have U4 : g5 < (V45.alloc (.cells #[.slice none 0 0, .slice none 0 0] 46)).heap.size := by rw [hg]; simp
            have LV : w.heap.size + 2 ≤ (V45.alloc (.cells #[.slice none 0 0, .slice none 0 0] 46)).heap.size := by omega
            rw [← hg] at Xg5 ⊢
            have Xg5 := Lib.hid Xg5
            clear hbn hsn hg
            generalize V45.alloc (.cells #[.slice none 0 0, .slice none 0 0] 46) = V50 at *
            have sn := stK HP.out HQ.out
            refine hK'.out _ _ (sn) (fun hHeld => ?_)
            clear hK' K' sn
            try simp only [Act.put, List.setIfInBounds_toArray, List.set_cons_succ, List.set_cons_zero]
            refine wpAnyH_ready (rs := [3]) (by kernel_rfl) (by simp) ?_
            refine AllReadyH.cons (o := { dst := some 19, op := Go.Op.call { callee := Go.Callee.value (Go.Operand.func 24), args := #[Go.Operand.tmp 18], argTypes := #[41] }, type := 46, pos := "law.go:35", after := #[{ on := 2, ground := Go.Ground.data }, { on := 1, ground := Go.Ground.chain }], guard := none }) rfl (fun K' hK' => ?_) AllReadyH.nil
            go_simp
            refine (q3.out V50 (bth5 HB0.out HB.out)).mono ?_
            rintro e V51 ⟨B3, d3, B4, d4, rfl, k1, k2, hbn⟩
            obtain ⟨l3, hl⟩ : ∃ x, x = V50.heap.size := ⟨_, rfl⟩
            obtain ⟨h3, hh⟩ : ∃ x, x = V51.heap.size := ⟨_, rfl⟩
            have Rx := And.intro (k1.sub (frI_of V51 _)) (k2.sub (frI_of V51 _))
            rw [← hl, ← hh] at Rx
            have Rx := Lib.hid Rx
            have O53 : g6 < l3 := by omega
            have O13 : h1 ≤ l3 := by omega
            have O43 : g5 < l3 := by omega
            have HB := Lib.hid (HB.out.trans (hbn.mono HB.out.size))
            have HP := Lib.hid (HP.out.step hbn)
            have HQ := Lib.hid (HQ.out.step hbn)
            have Xg6 := Lib.hid (Xg6.out.step hbn)
            have Rr := Lib.hid (And.intro (Rr.out.1.sub (frI_below hbn)) (Rr.out.2.sub (frI_below hbn)))
            have Xg5 := Lib.hid (Xg5.out.step hbn)
            have hsn := hbn.size
            have U5 : g6 < V51.heap.size := Nat.lt_of_lt_of_le U5 hsn
            have U1 : h1 ≤ V51.heap.size := Nat.le_trans U1 hsn
            have U4 : g5 < V51.heap.size := Nat.lt_of_lt_of_le U4 hsn
            have O33 : l3 ≤ h3 := by omega
            have L3 : w.heap.size + 2 ≤ l3 := by have := LV; omega
            have U3 : h3 ≤ V51.heap.size := by omega
            have LV : w.heap.size + 2 ≤ V51.heap.size := by omega
            clear k1 k2 hbn hsn hl hh
            have sn := stK HP.out HQ.out
            refine hK'.out _ _ (sn) (fun hHeld => ?_)
            clear hK' K' sn
            try simp only [Act.put, List.setIfInBounds_toArray, List.set_cons_succ, List.set_cons_zero]
            have j0 := Xg5.out.two
            have j1 := (Xg5.out 0 _ rfl).2
            have j2 := (Xg5.out 1 _ rfl).2
            have hne : g6 ≠ g5 := by omega
            have Y := (Xg6.out.far (p := ⟨g5, 0, none⟩) (Ne.symm hne) (.slice B1 n d1)).far (p := ⟨g5, 1, none⟩) (Ne.symm hne) (.slice B2 m d2)
            have y0 := Y.two
            have y1 := (Y 0 _ rfl).2
            have y2 := (Y 1 _ rfl).2
            have s6 := stK ((HP.out.far (p := ⟨g5, 0, none⟩) (show g5 ≠ w.heap.size by omega) (.slice B1 n d1)).far (p := ⟨g5, 1, none⟩) (show g5 ≠ w.heap.size by omega) (.slice B2 m d2)) ((HQ.out.far (p := ⟨g5, 0, none⟩) (show g5 ≠ w.heap.size + 1 by omega) (.slice B1 n d1)).far (p := ⟨g5, 1, none⟩) (show g5 ≠ w.heap.size + 1 by omega) (.slice B2 m d2))
            have s7 := stK ((((HP.out.far (p := ⟨g5, 0, none⟩) (show g5 ≠ w.heap.size by omega) (.slice B1 n d1)).far (p := ⟨g5, 1, none⟩) (show g5 ≠ w.heap.size by omega) (.slice B2 m d2)).far (p := ⟨g6, 0, none⟩) (show g6 ≠ w.heap.size by omega) (.slice B3 n' d3)).far (p := ⟨g6, 1, none⟩) (show g6 ≠ w.heap.size by omega) (.slice B4 m' d4)) ((((HQ.out.far (p := ⟨g5, 0, none⟩) (show g5 ≠ w.heap.size + 1 by omega) (.slice B1 n d1)).far (p := ⟨g5, 1, none⟩) (show g5 ≠ w.heap.size + 1 by omega) (.slice B2 m d2)).far (p := ⟨g6, 0, none⟩) (show g6 ≠ w.heap.size + 1 by omega) (.slice B3 n' d3)).far (p := ⟨g6, 1, none⟩) (show g6 ≠ w.heap.size + 1 by omega) (.slice B4 m' d4))
            refine wpAnyH_ready (rs := [6]) (by kernel_rfl) (by simp) ?_
            refine AllReadyH.cons (o := { dst := none, op := Go.Op.store 46 (Go.Operand.tmp 5) (Go.Operand.tmp 17), type := 0, pos := "law.go:35", after := #[{ on := 4, ground := Go.Ground.data }, { on := 1, ground := Go.Ground.data }, { on := 3, ground := Go.Ground.chain }, { on := 0, ground := Go.Ground.phase }, { on := 1, ground := Go.Ground.phase }, { on := 2, ground := Go.Ground.textOnly Go.Departure.lateStores }, { on := 3, ground := Go.Ground.textOnly Go.Departure.lateStoresUnsure }, { on := 4, ground := Go.Ground.phase }, { on := 5, ground := Go.Ground.phase }], guard := none }) rfl (fun K' hK' => ?_) AllReadyH.nil
            go_simp
            refine hK'.out _ _ (s6) (fun hHeld => ?_)
            clear hK' K'
            try simp only [Act.put, List.setIfInBounds_toArray, List.set_cons_succ, List.set_cons_zero]
            refine wpAnyH_ready (rs := [7]) (by kernel_rfl) (by simp) ?_
            refine AllReadyH.cons (o := { dst := none, op := Go.Op.store 46 (Go.Operand.tmp 6) (Go.Operand.tmp 19), type := 0, pos := "law.go:35", after := #[{ on := 5, ground := Go.Ground.data }, { on := 3, ground := Go.Ground.data }, { on := 6, ground := Go.Ground.chain }, { on := 0, ground := Go.Ground.phase }, { on := 1, ground := Go.Ground.phase }, { on := 2, ground := Go.Ground.phase }, { on := 3, ground := Go.Ground.phase }, { on := 4, ground := Go.Ground.phase }, { on := 5, ground := Go.Ground.phase }, { on := 6, ground := Go.Ground.phase }], guard := none }) rfl (fun K' hK' => ?_) AllReadyH.nil
            go_simp
            refine hK'.out _ _ (s7) (fun hHeld => ?_)
            clear hK' K'
            try simp only [Act.put, List.setIfInBounds_toArray, List.set_cons_succ, List.set_cons_zero]
            refine wpAnyH_done (by kernel_rfl) ?_ _
            refine NoPanic.normal ?_
            exact hrest g5 g6 B1 d1 B2 d2 B3 d3 B4 d4 _ _ _ _ _ _ _ _ _ _ _ _ _ _ _ _ _ _ _ _ _ _ _ _ _ _ _ _ _ _ _ _ _ _ _ _ _ _ _ _ _ _ _ _ _ _ _ _ _ _ _ _ _ _ _ _ _ _ _ (T3.made hL hx hy hx' hy' HB0.out HB.out HP.out HQ.out Rr.out.1 Rr.out.2 Rx.out.1 Rx.out.2 Xg5.out Xg6.out (by omega))
        · go_simp
          have hbn := bnew5 V44 (.cells #[.slice none 0 0, .slice none 0 0] 46)
          have Xg5 := Box.new V44 [.slice none 0 0, .slice none 0 0] 46
          have HB := Lib.hid (HB.out.trans (hbn.mono HB.out.size))
          have HP := Lib.hid (HP.out.step hbn)
          have HQ := Lib.hid (HQ.out.step hbn)
          have Xg6 := Lib.hid (Xg6.out.step hbn)
          have hsn := hbn.size
          have U5 : g6 < (V44.alloc (.cells #[.slice none 0 0, .slice none 0 0] 46)).heap.size := Nat.lt_of_lt_of_le U5 hsn
          obtain ⟨g5, hg⟩ : ∃ g, g = V44.heap.size := ⟨_, rfl⟩
          have O54 : g6 < g5 := by omega
          have L4 : w.heap.size + 2 ≤ g5 := by have := LV; omega
          have U4 : g5 < (V44.alloc (.cells #[.slice none 0 0, .slice none 0 0] 46)).heap.size := by rw [hg]; simp
          have LV : w.heap.size + 2 ≤ (V44.alloc (.cells #[.slice none 0 0, .slice none 0 0] 46)).heap.size := by omega
          rw [← hg] at Xg5 ⊢
          have Xg5 := Lib.hid Xg5
          clear hbn hsn hg
          generalize V44.alloc (.cells #[.slice none 0 0, .slice none 0 0] 46) = V54 at *
          have sn := stK HP.out HQ.out
          refine hK'.out _ _ (sn) (fun hHeld => ?_)
          clear hK' K' sn
          try simp only [Act.put, List.setIfInBounds_toArray, List.set_cons_succ, List.set_cons_zero]
          refine wpAnyH_ready (rs := [1]) (by kernel_rfl) (by simp) ?_
          refine AllReadyH.cons (o := { dst := some 17, op := Go.Op.call { callee := Go.Callee.value (Go.Operand.func 24), args := #[Go.Operand.tmp 16], argTypes := #[41] }, type := 46, pos := "law.go:35", after := #[{ on := 0, ground := Go.Ground.data }], guard := none }) rfl (fun K' hK' => ?_) AllReadyH.nil
          go_simp
          refine (q1.out V54 (bth5 HB0.out HB.out)).mono ?_
          rintro e V55 ⟨B1, d1, B2, d2, rfl, k1, k2, hbn⟩
          obtain ⟨l1, hl⟩ : ∃ x, x = V54.heap.size := ⟨_, rfl⟩
          obtain ⟨h1, hh⟩ : ∃ x, x = V55.heap.size := ⟨_, rfl⟩
          have Rr := And.intro (k1.sub (frI_of V55 _)) (k2.sub (frI_of V55 _))
          rw [← hl, ← hh] at Rr
          have Rr := Lib.hid Rr
          have O51 : g6 < l1 := by omega
          have O41 : g5 < l1 := by omega
          have HB := Lib.hid (HB.out.trans (hbn.mono HB.out.size))
          have HP := Lib.hid (HP.out.step hbn)
          have HQ := Lib.hid (HQ.out.step hbn)
          have Xg6 := Lib.hid (Xg6.out.step hbn)
          have Xg5 := Lib.hid (Xg5.out.step hbn)
          have hsn := hbn.size
          have U5 : g6 < V55.heap.size := Nat.lt_of_lt_of_le U5 hsn
          have U4 : g5 < V55.heap.size := Nat.lt_of_lt_of_le U4 hsn
          have O11 : l1 ≤ h1 := by omega
          have L1 : w.heap.size + 2 ≤ l1 := by have := LV; omega
          have U1 : h1 ≤ V55.heap.size := by omega
          have LV : w.heap.size + 2 ≤ V55.heap.size := by omega
          clear k1 k2 hbn hsn hl hh
          have sn := stK HP.out HQ.out
          refine hK'.out _ _ (sn) (fun hHeld => ?_)
          clear hK' K' sn
          try simp only [Act.put, List.setIfInBounds_toArray, List.set_cons_succ, List.set_cons_zero]
          refine wpAnyH_ready (rs := [3]) (by kernel_rfl) (by simp) ?_
          refine AllReadyH.cons (o := { dst := some 19, op := Go.Op.call { callee := Go.Callee.value (Go.Operand.func 24), args := #[Go.Operand.tmp 18], argTypes := #[41] }, type := 46, pos := "law.go:35", after := #[{ on := 2, ground := Go.Ground.data }, { on := 1, ground := Go.Ground.chain }], guard := none }) rfl (fun K' hK' => ?_) AllReadyH.nil
          go_simp
          refine (q3.out V55 (bth5 HB0.out HB.out)).mono ?_
          rintro e V56 ⟨B3, d3, B4, d4, rfl, k1, k2, hbn⟩
          obtain ⟨l3, hl⟩ : ∃ x, x = V55.heap.size := ⟨_, rfl⟩
          obtain ⟨h3, hh⟩ : ∃ x, x = V56.heap.size := ⟨_, rfl⟩
          have Rx := And.intro (k1.sub (frI_of V56 _)) (k2.sub (frI_of V56 _))
          rw [← hl, ← hh] at Rx
          have Rx := Lib.hid Rx
          have O53 : g6 < l3 := by omega
          have O43 : g5 < l3 := by omega
          have O13 : h1 ≤ l3 := by omega
          have HB := Lib.hid (HB.out.trans (hbn.mono HB.out.size))
          have HP := Lib.hid (HP.out.step hbn)
          have HQ := Lib.hid (HQ.out.step hbn)
          have Xg6 := Lib.hid (Xg6.out.step hbn)
          have Xg5 := Lib.hid (Xg5.out.step hbn)
          have Rr := Lib.hid (And.intro (Rr.out.1.sub (frI_below hbn)) (Rr.out.2.sub (frI_below hbn)))
          have hsn := hbn.size
          have U5 : g6 < V56.heap.size := Nat.lt_of_lt_of_le U5 hsn
          have U4 : g5 < V56.heap.size := Nat.lt_of_lt_of_le U4 hsn
          have U1 : h1 ≤ V56.heap.size := Nat.le_trans U1 hsn
          have O33 : l3 ≤ h3 := by omega
          have L3 : w.heap.size + 2 ≤ l3 := by have := LV; omega
          have U3 : h3 ≤ V56.heap.size := by omega
          have LV : w.heap.size + 2 ≤ V56.heap.size := by omega
          clear k1 k2 hbn hsn hl hh
          have sn := stK HP.out HQ.out
          refine hK'.out _ _ (sn) (fun hHeld => ?_)
          clear hK' K' sn
          try simp only [Act.put, List.setIfInBounds_toArray, List.set_cons_succ, List.set_cons_zero]
          have j0 := Xg5.out.two
          have j1 := (Xg5.out 0 _ rfl).2
          have j2 := (Xg5.out 1 _ rfl).2
          have hne : g6 ≠ g5 := by omega
          have Y := (Xg6.out.far (p := ⟨g5, 0, none⟩) (Ne.symm hne) (.slice B1 n d1)).far (p := ⟨g5, 1, none⟩) (Ne.symm hne) (.slice B2 m d2)
          have y0 := Y.two
          have y1 := (Y 0 _ rfl).2
          have y2 := (Y 1 _ rfl).2
          have s6 := stK ((HP.out.far (p := ⟨g5, 0, none⟩) (show g5 ≠ w.heap.size by omega) (.slice B1 n d1)).far (p := ⟨g5, 1, none⟩) (show g5 ≠ w.heap.size by omega) (.slice B2 m d2)) ((HQ.out.far (p := ⟨g5, 0, none⟩) (show g5 ≠ w.heap.size + 1 by omega) (.slice B1 n d1)).far (p := ⟨g5, 1, none⟩) (show g5 ≠ w.heap.size + 1 by omega) (.slice B2 m d2))
          have s7 := stK ((((HP.out.far (p := ⟨g5, 0, none⟩) (show g5 ≠ w.heap.size by omega) (.slice B1 n d1)).far (p := ⟨g5, 1, none⟩) (show g5 ≠ w.heap.size by omega) (.slice B2 m d2)).far (p := ⟨g6, 0, none⟩) (show g6 ≠ w.heap.size by omega) (.slice B3 n' d3)).far (p := ⟨g6, 1, none⟩) (show g6 ≠ w.heap.size by omega) (.slice B4 m' d4)) ((((HQ.out.far (p := ⟨g5, 0, none⟩) (show g5 ≠ w.heap.size + 1 by omega) (.slice B1 n d1)).far (p := ⟨g5, 1, none⟩) (show g5 ≠ w.heap.size + 1 by omega) (.slice B2 m d2)).far (p := ⟨g6, 0, none⟩) (show g6 ≠ w.heap.size + 1 by omega) (.slice B3 n' d3)).far (p := ⟨g6, 1, none⟩) (show g6 ≠ w.heap.size + 1 by omega) (.slice B4 m' d4))
          refine wpAnyH_ready (rs := [6]) (by kernel_rfl) (by simp) ?_
          refine AllReadyH.cons (o := { dst := none, op := Go.Op.store 46 (Go.Operand.tmp 5) (Go.Operand.tmp 17), type := 0, pos := "law.go:35", after := #[{ on := 4, ground := Go.Ground.data }, { on := 1, ground := Go.Ground.data }, { on := 3, ground := Go.Ground.chain }, { on := 0, ground := Go.Ground.phase }, { on := 1, ground := Go.Ground.phase }, { on := 2, ground := Go.Ground.textOnly Go.Departure.lateStores }, { on := 3, ground := Go.Ground.textOnly Go.Departure.lateStoresUnsure }, { on := 4, ground := Go.Ground.phase }, { on := 5, ground := Go.Ground.phase }], guard := none }) rfl (fun K' hK' => ?_) AllReadyH.nil
          go_simp
          refine hK'.out _ _ (s6) (fun hHeld => ?_)
          clear hK' K'
          try simp only [Act.put, List.setIfInBounds_toArray, List.set_cons_succ, List.set_cons_zero]
          refine wpAnyH_ready (rs := [7]) (by kernel_rfl) (by simp) ?_
          refine AllReadyH.cons (o := { dst := none, op := Go.Op.store 46 (Go.Operand.tmp 6) (Go.Operand.tmp 19), type := 0, pos := "law.go:35", after := #[{ on := 5, ground := Go.Ground.data }, { on := 3, ground := Go.Ground.data }, { on := 6, ground := Go.Ground.chain }, { on := 0, ground := Go.Ground.phase }, { on := 1, ground := Go.Ground.phase }, { on := 2, ground := Go.Ground.phase }, { on := 3, ground := Go.Ground.phase }, { on := 4, ground := Go.Ground.phase }, { on := 5, ground := Go.Ground.phase }, { on := 6, ground := Go.Ground.phase }], guard := none }) rfl (fun K' hK' => ?_) AllReadyH.nil
          go_simp
          refine hK'.out _ _ (s7) (fun hHeld => ?_)
          clear hK' K'
          try simp only [Act.put, List.setIfInBounds_toArray, List.set_cons_succ, List.set_cons_zero]
          refine wpAnyH_done (by kernel_rfl) ?_ _
          refine NoPanic.normal ?_
          exact hrest g5 g6 B1 d1 B2 d2 B3 d3 B4 d4 _ _ _ _ _ _ _ _ _ _ _ _ _ _ _ _ _ _ _ _ _ _ _ _ _ _ _ _ _ _ _ _ _ _ _ _ _ _ _ _ _ _ _ _ _ _ _ _ _ _ _ _ _ _ _ _ _ _ _ (T3.made hL hx hy hx' hy' HB0.out HB.out HP.out HQ.out Rr.out.1 Rr.out.2 Rx.out.1 Rx.out.2 Xg5.out Xg6.out (by omega))
end Go.Proofs.YtkmioieanopafaaDoor
