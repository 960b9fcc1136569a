/- PrettySame (written by tools/gen_lawvb.py). -/
import Derived.Test.YtejifkeeihkcjaaDoorGPriJ
import Derived.Test.YtejifkeeihkcjaaDoorGHeldC
import Derived.Test.YtejifkeeihkcjaaDoorGAstN
import Derived.Test.YtejifkeeihkcjaaDoorGRegI
import Derived.Deep.RegionHeld3
namespace Go.Proofs.YtejifkeeihkcjaaDoor
section
open Go.RowKit

/-- The law's four boxes. -/
structure SK (w : World) (vp vq va vb : List Value) (W : World) : Prop where
  bel : Below w.heap.size w W
  p : Box W w.heap.size vp
  q : Box W (w.heap.size + 1) vq
  a : Box W (w.heap.size + 1 + 1) va
  b : Box W (w.heap.size + 1 + 1 + 1) vb
  le : w.heap.size + 4 ≤ W.heap.size
theorem SK.step {w : World} {vp vq va vb : List Value} {W W' : World} (h : SK w vp vq va vb W) (hb : Below W.heap.size W W') : SK w vp vq va vb W' := ⟨bth5 h.bel hb, h.p.step hb, h.q.step hb, h.a.step hb, h.b.step hb, Nat.le_trans h.le hb.size⟩
theorem SK.drew {w : World} {vp vq va vb : List Value} {W : World} (h : SK w vp vq va vb W) : SK w vp vq va vb W.drew := h.step (Below.refl _ _).drew
theorem SK.far {w : World} {vp vq va vb : List Value} {W : World} (h : SK w vp vq va vb W) {p : Addr} (hp : w.heap.size + 4 ≤ p.block) (u : Value) : SK w vp vq va vb (W.setCell p u) := ⟨h.bel.setCell (by omega) u, h.p.far (by omega) u, h.q.far (by omega) u, h.a.far (by omega) u, h.b.far (by omega) u, by simpa [World.setCell] using h.le⟩
theorem SK.made (w : World) (vp vq va vb : List Value) (T1 T2 T3 T4 : TypeId) : SK w vp vq va vb ((((w.alloc (.cells vp.toArray T1)).alloc (.cells vq.toArray T2)).alloc (.cells va.toArray T3)).alloc (.cells vb.toArray T4)) := by
  have z1 : (w.alloc (.cells vp.toArray T1)).heap.size = w.heap.size + 1 := by simp
  have z2 : ((w.alloc (.cells vp.toArray T1)).alloc (.cells vq.toArray T2)).heap.size = w.heap.size + 1 + 1 := by simp
  have z3 : (((w.alloc (.cells vp.toArray T1)).alloc (.cells vq.toArray T2)).alloc (.cells va.toArray T3)).heap.size = w.heap.size + 1 + 1 + 1 := by simp
  have b1 := Box.new w vp T1
  have b2 := Box.new (w.alloc (.cells vp.toArray T1)) vq T2
  have b3 := Box.new ((w.alloc (.cells vp.toArray T1)).alloc (.cells vq.toArray T2)) va T3
  have b4 := Box.new (((w.alloc (.cells vp.toArray T1)).alloc (.cells vq.toArray T2)).alloc (.cells va.toArray T3)) vb T4
  rw [z1] at b2
  rw [z2] at b3
  rw [z3] at b4
  exact ⟨bth5 (bth5 (bth5 (bnew5 _ _) (bnew5 _ _)) (bnew5 _ _)) (bnew5 _ _), ((b1.step (bnew5 _ _)).step (bnew5 _ _)).step (bnew5 _ _), (b2.step (bnew5 _ _)).step (bnew5 _ _), b3.step (bnew5 _ _), b4, by simp⟩
theorem CapD.step {W W' : World} {A : Option Addr} {ds : List DV} (h : CapD W A ds.length) (hx : DR W A ds) (hb : Below W.heap.size W W') : CapD W' A ds.length := fun ad ha i hi A1 m c1 hc => by
  obtain ⟨ad', dv, e, _, A2, c2, A3, c3, e0, e1, e2, e3, e4, e5, -⟩ := hx.el hi
  rw [ha] at e
  injection e with e
  subst e
  have h5 := cst5 hb e5
  rw [show (ad.add (i * 9)).add 5 = ⟨(ad.add (i * 9)).block, (ad.add (i * 9)).off + 5, none⟩ from rfl, h5] at hc
  injection hc with hc
  injection hc with hc1 hc2 hc3
  have := h ad ha i hi _ _ _ e5
  omega
theorem textQ_ne (ds : List DV) (mn : List SV) : (textQ ds mn == []) = !(rgd ds && rgs mn) := by
  unfold textQ
  cases hr : (rgd ds && rgs mn) with
  | false => rw [if_neg (by simp)]; rfl
  | true =>
    rw [if_pos rfl]
    rw [Bool.and_eq_true] at hr
    rw [textP_eq ds mn (rs_all mn hr.2)]
    cases ds.flatMap lineD <;> rfl
theorem textE_ne (e : XV) : (textE e == []) = !rgx1 e := by
  unfold textE
  cases hr : rgx1 e with
  | false => rw [if_neg (by simp)]; rfl
  | true =>
    rw [if_pos rfl]
    obtain ⟨c, y, -, hb⟩ := layX_byts (rx_of e hr) []
    have : textX e = c :: y := by unfold textX; rw [hb]; rfl
    rw [this]
    rfl
theorem bs_eq (a b : List UInt8) : ((bs a).toList == (bs b).toList) = (a == b) := textB a b
theorem bs_nil (a : List UInt8) : ((bs a).toList == []) = (a == []) := by rw [Bool.eq_iff_iff]; simp [bs]

/-! ### Region 3 -/
def rowE (W : World) (g : Nat) (vs : List Value) : Prop := W.heap[g]? = some (.cells vs.toArray 32 (0, 0))
def rowT (W : World) (g g1 : Nat) : Prop := W.heap[g]? = some (.cells #[.int .i64 4, .string ⟨#[]⟩, .slice (some ⟨g1, 0, none⟩) 1 1, .slice none 0 0, .slice none 0 0, .int .i64 0, .int .i64 0] 37 (0, 0))
def rowP (W : World) (g g1 : Nat) : Prop := W.heap[g]? = some (.cells #[.slice none 0 0, .slice (some ⟨g1, 0, none⟩) 1 1] 25 (0, 0))
def anyP (W : World) (g : Nat) : Prop := ∃ u v, W.heap[g]? = some (.cells #[u, v] 25 (0, 0))
/-- All but programs is kept. -/
def Kz (W W' : World) : Prop := ∀ (k : Nat) (o : Obj), W.heap[k]? = some o → (∀ c fz, o ≠ Obj.cells c 25 fz) → W'.heap[k]? = some o
theorem Kz.alloc (W : World) (o : Obj) : Kz W (W.alloc o) := fun k _ h _ => (Below.heap_alloc W o k (heap_lt h)).trans h
theorem Kz.refl (W : World) : Kz W W := fun _ _ h _ => h
theorem Kz.set {W : World} {g j : Nat} {v : Value} (h : anyP W g) : Kz W (W.setCell ⟨g, j, none⟩ v) := fun k o hk ho => by
  obtain ⟨u, v', h1⟩ := h
  refine (Below.heap_setCell _ _ _ _ ?_).trans hk
  rintro rfl
  rw [h1] at hk
  injection hk with hk
  exact ho _ _ hk.symm
theorem Kz.trans {A B C : World} (h : Kz A B) (k : Kz B C) : Kz A C := fun i o hi ho => k i o (h i o hi ho) ho
theorem rowE.kz {W W' : World} {g : Nat} {vs : List Value} (h : rowE W g vs) (k : Kz W W') : rowE W' g vs := k g _ h (fun c fz e => by injection e with _ e; exact absurd e (by decide))
theorem rowT.kz {W W' : World} {g g1 : Nat} (h : rowT W g g1) (k : Kz W W') : rowT W' g g1 := k g _ h (fun c fz e => by injection e with _ e; exact absurd e (by decide))
theorem rowP.any {W : World} {g g1 : Nat} (h : rowP W g g1) : anyP W g := ⟨_, _, h⟩
/-- One of the two expressions, on its way into a program. -/
structure Half (vs : List Value) (L : Nat → Bool) (b : Nat) (t0 t1 t2 t3 t4 : Value) (W : World) : Prop where
  a0 : L b = true → t0 = .agg vs.toArray
  a1 : L (b + 1) = true → ∃ g, t1 = .slice (some ⟨g, 0, none⟩) 1 1 ∧ rowE W g vs
  a2 : L (b + 2) = true → ∃ g, t2 = .agg #[.int .i64 4, .string ⟨#[]⟩, .slice (some ⟨g, 0, none⟩) 1 1, .slice none 0 0, .slice none 0 0, .int .i64 0, .int .i64 0] ∧ rowE W g vs
  a3 : L (b + 3) = true → ∃ g g2, t3 = .slice (some ⟨g2, 0, none⟩) 1 1 ∧ rowE W g vs ∧ rowT W g2 g
  a4 : L (b + 4) = true → ∃ g g2, t4 = .agg #[.slice none 0 0, .slice (some ⟨g2, 0, none⟩) 1 1] ∧ rowE W g vs ∧ rowT W g2 g
theorem Half.kz {vs : List Value} {L : Nat → Bool} {b : Nat} {t0 t1 t2 t3 t4 : Value} {W W' : World} (h : Half vs L b t0 t1 t2 t3 t4 W) (k : Kz W W') : Half vs L b t0 t1 t2 t3 t4 W' :=
  ⟨h.a0, fun l => let ⟨g, e, r⟩ := h.a1 l; ⟨g, e, r.kz k⟩, fun l => let ⟨g, e, r⟩ := h.a2 l; ⟨g, e, r.kz k⟩, fun l => let ⟨g, g2, e, r, s⟩ := h.a3 l; ⟨g, g2, e, r.kz k, s.kz k⟩, fun l => let ⟨g, g2, e, r, s⟩ := h.a4 l; ⟨g, g2, e, r.kz k, s.kz k⟩⟩
/-- What has come up in region 3. -/
structure I3 (w : World) (vp vq va vb : List Value) (L : Nat → Bool) (t9 t10 t20 t21 t22 t23 t24 t25 t26 t27 t28 t29 : Value) (W : World) : Prop where
  sk : SK w vp vq va vb W
  ha : Half va L 0 t20 t21 t22 t23 t24 W
  hb : Half vb L 5 t25 t26 t27 t28 t29 W
  px : L 10 = true → ∃ g, t9 = .pointer (some ⟨g, 0, none⟩) ∧ w.heap.size + 4 ≤ g ∧ anyP W g
  py : L 11 = true → ∃ g, t10 = .pointer (some ⟨g, 0, none⟩) ∧ w.heap.size + 4 ≤ g ∧ anyP W g
  ne : L 10 = true → L 11 = true → t9 ≠ t10
  sx : L 12 = true → ∃ g g1 g2, t9 = .pointer (some ⟨g, 0, none⟩) ∧ rowP W g g2 ∧ rowE W g1 va ∧ rowT W g2 g1
  sy : L 13 = true → ∃ g g1 g2, t10 = .pointer (some ⟨g, 0, none⟩) ∧ rowP W g g2 ∧ rowE W g1 vb ∧ rowT W g2 g1
  ox : L 12 = true → L 10 = true
  oy : L 13 = true → L 11 = true
theorem anyP.lt {W : World} {g : Nat} (h : anyP W g) : g < W.heap.size := let ⟨_, _, h⟩ := h; heap_lt h
theorem anyP.alloc {W : World} {g : Nat} (h : anyP W g) (o : Obj) : anyP (W.alloc o) g := let ⟨u, v, e⟩ := h; ⟨u, v, (Below.heap_alloc W o g (heap_lt e)).trans e⟩
theorem rowP.alloc {W : World} {g g1 : Nat} (h : rowP W g g1) (o : Obj) : rowP (W.alloc o) g g1 := (Below.heap_alloc W o g (heap_lt h)).trans h
theorem anyP.drew {W : World} {g : Nat} (h : anyP W g) : anyP W.drew g := h
def put2 (W : World) (g : Nat) (u v : Value) : World := (W.setCell ⟨g, 0, none⟩ u).setCell ⟨g, 1, none⟩ v
theorem put2_at {W : World} {g : Nat} (h : anyP W g) (u v : Value) : (put2 W g u v).heap[g]? = some (.cells #[u, v] 25 (0, 0)) := by
  obtain ⟨x, y, e⟩ := h
  simp [put2, World.setCell, Array.getElem?_modify, e]
theorem put2_far {W : World} {g k : Nat} (h : k ≠ g) (u v : Value) : (put2 W g u v).heap[k]? = W.heap[k]? := by
  unfold put2
  rw [Below.heap_setCell _ _ _ _ h, Below.heap_setCell _ _ _ _ h]
theorem put2_kz {W : World} {g : Nat} (h : anyP W g) (u v : Value) : Kz W (put2 W g u v) := (Kz.set h).trans (Kz.set (by
  obtain ⟨x, y, e⟩ := h
  exact ⟨u, y, by simp [World.setCell, Array.getElem?_modify, e]⟩))
theorem anyP.put2 {W : World} {g k : Nat} (h : anyP W g) (hk : anyP W k) (u v : Value) : anyP (put2 W g u v) k := by
  by_cases e : k = g
  · subst e; exact ⟨_, _, put2_at h u v⟩
  · obtain ⟨x, y, e2⟩ := hk; exact ⟨x, y, (put2_far e u v).trans e2⟩
theorem SK.put2 {w : World} {vp vq va vb : List Value} {W : World} (h : SK w vp vq va vb W) {g : Nat} (hg : w.heap.size + 4 ≤ g) (u v : Value) : SK w vp vq va vb (put2 W g u v) := (h.far (p := ⟨g, 0, none⟩) hg u).far (p := ⟨g, 1, none⟩) hg v
section
variable {w : World} {vp vq va vb : List Value} {L : Nat → Bool} {t9 t10 t20 t21 t22 t23 t24 t25 t26 t27 t28 t29 : Value} {W : World}
theorem I3.alloc (h : I3 w vp vq va vb L t9 t10 t20 t21 t22 t23 t24 t25 t26 t27 t28 t29 W) (o : Obj) : I3 w vp vq va vb L t9 t10 t20 t21 t22 t23 t24 t25 t26 t27 t28 t29 (W.alloc o) :=
  have k := Kz.alloc W o
  ⟨h.sk.step (bnew5 _ _), h.ha.kz k, h.hb.kz k, fun l => let ⟨g, e, a, b⟩ := h.px l; ⟨g, e, a, b.alloc o⟩, fun l => let ⟨g, e, a, b⟩ := h.py l; ⟨g, e, a, b.alloc o⟩, h.ne,
    fun l => let ⟨g, g1, g2, e, a, b, c⟩ := h.sx l; ⟨g, g1, g2, e, a.alloc o, b.kz k, c.kz k⟩, fun l => let ⟨g, g1, g2, e, a, b, c⟩ := h.sy l; ⟨g, g1, g2, e, a.alloc o, b.kz k, c.kz k⟩, h.ox, h.oy⟩
end
theorem lis_none (n k : Nat) : lis (Array.replicate n false) k = false := by
  unfold lis
  simp only [Array.getD_eq_getD_getElem?]
  by_cases h : k < n <;> simp [h]
structure SQ (w : World) (vp vq va vb : List Value) (g9 u2 g10 v2 : Nat) (se sf : SV) (W : World) : Prop where
  sk : SK w vp vq va vb W
  x : rowP W g9 u2
  y : rowP W g10 v2
  sx : SR W (some ⟨u2, 0, none⟩) [se]
  sy : SR W (some ⟨v2, 0, none⟩) [sf]
theorem rowP.step {W W' : World} {g g1 : Nat} (h : rowP W g g1) (hb : Below W.heap.size W W') : rowP W' g g1 := (hb.block g (heap_lt h)).trans h
theorem rowP.two {W : World} {g g1 : Nat} (h : rowP W g g1) : W.cell? ⟨g, 0, none⟩ = some (.slice none 0 0) ∧ W.cell? ⟨g, 1, none⟩ = some (.slice (some ⟨g1, 0, none⟩) 1 1) := ⟨by rw [Lib.cell_of_heap h]; rfl, by rw [Lib.cell_of_heap h]; rfl⟩
theorem SQ.step {w : World} {vp vq va vb : List Value} {g9 u2 g10 v2 : Nat} {se sf : SV} {W W' : World} (h : SQ w vp vq va vb g9 u2 g10 v2 se sf W) (hb : Below W.heap.size W W') : SQ w vp vq va vb g9 u2 g10 v2 se sf W' :=
  ⟨h.sk.step hb, h.x.step hb, h.y.step hb, h.sx.sub (Sub.below hb), h.sy.sub (Sub.below hb)⟩
theorem SQ.drew {w : World} {vp vq va vb : List Value} {g9 u2 g10 v2 : Nat} {se sf : SV} {W : World} (h : SQ w vp vq va vb g9 u2 g10 v2 se sf W) : SQ w vp vq va vb g9 u2 g10 v2 se sf W.drew := h.step (Below.refl _ _).drew

set_option maxRecDepth 100000 in
set_option maxHeartbeats 16000000 in
theorem same7 (ds : List DV) (mn : List SV) (es : List DV) (mm : List SV) (e f : XV) (hs : sbk mn + dbk ds ≤ 1100000) (hs' : sbk mm + dbk es ≤ 1100000) (hse : xbk1 e ≤ 1100000) (hsf : xbk1 f ≤ 1100000)
    (hi : ds.all inD = true) (im : inSs mn = true) (hR : ∀ d ∈ ds, inR d) (hi' : es.all inD = true) (im' : inSs mm = true) (hR' : ∀ d ∈ es, inR d) (ie : inX e = true) (jf : inX f = true)
    (A : Option Addr) (c : Nat) (B : Option Addr) (c' : Nat) (A' : Option Addr) (d : Nat) (B' : Option Addr) (d' : Nat) (E : Option Addr) (k1 : Nat) (F : Option Addr) (k2 : Nat) (w : World) (hL : LaidP w)
    (hx : DR w A ds) (hy : SR w B mn) (hcap : CapD w A ds.length) (hx' : DR w A' es) (hy' : SR w B' mm) (hcap' : CapD w A' es.length) (he : XR w E e.gs) (hf : XR w F f.gs) :
    Calls Tryd.prog 3 #[pval A ds.length c B mn.length c', pval A' es.length d B' mm.length d', xval e E k1, xval f F k2] w fun r w' => r = .returned (.bool true) ∧ Below w.heap.size w w' := by
  have Wk := Lib.hid (fun V (hb : Below w.heap.size w V) => works7 V (hL.step hb))
  have f1 := Lib.hid (fun V (hb : Below w.heap.size w V) => docsFew ds mn (by omega) A c B c' 300 V (hx.sub (Sub.below hb)) (hy.sub (Sub.below hb)))
  have f2 := Lib.hid (fun V (hb : Below w.heap.size w V) => docsFew es mm (by omega) A' d B' d' 300 V (hx'.sub (Sub.below hb)) (hy'.sub (Sub.below hb)))
  have f3 := Lib.hid (fun V g (hb : Below w.heap.size w V) hy => docsFew [] [.mk 4 [] [e] [] [] 0 0] (by simp only [sbk, sbk1, xbk, dbk, List.length_nil]; omega) none 0 (some ⟨g, 0, none⟩) 1 300 V (DR.nil _ _) hy)
  have f4 := Lib.hid (fun V g (hb : Below w.heap.size w V) hy => docsFew [] [.mk 4 [] [f] [] [] 0 0] (by simp only [sbk, sbk1, xbk, dbk, List.length_nil]; omega) none 0 (some ⟨g, 0, none⟩) 1 300 V (DR.nil _ _) hy)
  have r1 := Lib.hid (fun V (hb : Below w.heap.size w V) => astRight6 ds mn (by omega) A c B c' V (hL.ast.step hb) (hx.sub (Sub.below hb)) (hy.sub (Sub.below hb)))
  have r2 := Lib.hid (fun V (hb : Below w.heap.size w V) => astRight6 es mm (by omega) A' d B' d' V (hL.ast.step hb) (hx'.sub (Sub.below hb)) (hy'.sub (Sub.below hb)))
  have r3 := Lib.hid (fun V g (hb : Below w.heap.size w V) hy => astRight6 [] [.mk 4 [] [e] [] [] 0 0] (by simp only [sbk, sbk1, xbk, dbk, List.length_nil]; omega) none 0 (some ⟨g, 0, none⟩) 1 V (hL.ast.step hb) (DR.nil _ _) hy)
  have r4 := Lib.hid (fun V g (hb : Below w.heap.size w V) hy => astRight6 [] [.mk 4 [] [f] [] [] 0 0] (by simp only [sbk, sbk1, xbk, dbk, List.length_nil]; omega) none 0 (some ⟨g, 0, none⟩) 1 V (hL.ast.step hb) (DR.nil _ _) hy)
  have p1 := Lib.hid (fun V (hb : Below w.heap.size w V) => priProgram ds mn hs hi im hR A c B c' V (hL.step hb) (hx.sub (Sub.below hb)) (hy.sub (Sub.below hb)) (hcap.step hx hb))
  have p2 := Lib.hid (fun V (hb : Below w.heap.size w V) => priProgram es mm hs' hi' im' hR' A' d B' d' V (hL.step hb) (hx'.sub (Sub.below hb)) (hy'.sub (Sub.below hb)) (hcap'.step hx' hb))
  have q1 := Lib.hid (fun V (hb : Below w.heap.size w V) => priPExpr e hse ie E k1 V (hL.step hb) (he.sub (Sub.below hb)))
  have q2 := Lib.hid (fun V (hb : Below w.heap.size w V) => priPExpr f hsf jf F k2 V (hL.step hb) (hf.sub (Sub.below hb)))
  have s1 := Lib.hid (fun V (hb : Below w.heap.size w V) => astSame6 ds es mn mm (by have := ssz_bk mn; omega) A c B c' A' d B' d' V (hx.sub (Sub.below hb)) (hy.sub (Sub.below hb)) (hx'.sub (Sub.below hb)) (hy'.sub (Sub.below hb)))
  have s2 := Lib.hid (fun V (hb : Below w.heap.size w V) => astSX1 e f (astSX (xsz e.gs) e.gs (Nat.le_refl _) (by have := xsz1_bk e; rw [xsz1_eq] at this; omega)) E k1 F k2 V (he.sub (Sub.below hb)) (hf.sub (Sub.below hb)))
  rw [show (rgd [] && rgs [.mk 4 [] [e] [] [] 0 0]) = rgx1 e by rw [← out_right]; rfl] at r3
  rw [show (rgd [] && rgs [.mk 4 [] [f] [] [] 0 0]) = rgx1 f by rw [← out_right]; rfl] at r4
  have hc1 := bs_nil (textQ ds mn)
  have hc2 := bs_nil (textE e)
  rw [textQ_ne] at hc1
  rw [textE_ne e] at hc2
  have hc3 : (rgd ds && rgs mn) = true → (rgd es && rgs mm) = true → ((bs (textQ ds mn)).toList == (bs (textQ es mm)).toList) = (smd ds es && smy mn mm) := fun h h' => by
    rw [bs_eq]
    unfold textQ
    rw [if_pos h, if_pos h']
    rw [Bool.and_eq_true] at h h'
    rw [Bool.eq_iff_iff, beq_iff_eq]
    exact textP_iff h.1 h'.1 h.2 h'.2 hi hi' im im' hR hR'
  have hc4 : rgx1 e = true → rgx1 f = true → ((bs (textE e)).toList == (bs (textE f)).toList) = smx1 e f := fun h h' => by
    rw [bs_eq]
    unfold textE
    rw [if_pos h, if_pos h', Bool.eq_iff_iff, beq_iff_eq]
    exact textX_iff (rx_of e h) (rx_of f h') (in_of e ie) (in_of f jf)
  obtain ⟨Tp, hTp⟩ : ∃ z : ByteArray, z = bs (textQ ds mn) := ⟨_, rfl⟩
  obtain ⟨Tq, hTq⟩ : ∃ z : ByteArray, z = bs (textQ es mm) := ⟨_, rfl⟩
  obtain ⟨Te, hTe⟩ : ∃ z : ByteArray, z = bs (textE e) := ⟨_, rfl⟩
  obtain ⟨Tf, hTf⟩ : ∃ z : ByteArray, z = bs (textE f) := ⟨_, rfl⟩
  obtain ⟨R1, hR1⟩ : ∃ z : Bool, z = (rgd ds && rgs mn) := ⟨_, rfl⟩
  obtain ⟨R2, hR2⟩ : ∃ z : Bool, z = (rgd es && rgs mm) := ⟨_, rfl⟩
  obtain ⟨S1, hS1⟩ : ∃ z : Bool, z = (smd ds es && smy mn mm) := ⟨_, rfl⟩
  obtain ⟨X1, hX1⟩ : ∃ z : Bool, z = rgx1 e := ⟨_, rfl⟩
  obtain ⟨X2, hX2⟩ : ∃ z : Bool, z = rgx1 f := ⟨_, rfl⟩
  obtain ⟨S2, hS2⟩ : ∃ z : Bool, z = smx1 e f := ⟨_, rfl⟩
  rw [← hTp] at hc1 hc3 p1
  rw [← hTq] at hc3 p2
  rw [← hTe] at hc2 hc4 q1
  rw [← hTf] at hc4 q2
  rw [← hR1] at hc1 hc3 r1
  rw [← hR2] at hc3 r2
  rw [← hS1] at hc3 s1
  rw [← hX1] at hc2 hc4 r3
  rw [← hX2] at hc4 r4
  rw [← hS2] at hc4 s2
  have HC1 := Lib.hid hc1
  have HC2 := Lib.hid hc2
  have HC3 := Lib.hid hc3
  have HC4 := Lib.hid hc4
  cases e with
  | mk ek en ex eo egs el ec =>
  cases f with
  | mk fk fn fx fo fgs fl fc =>
  simp only [XV.gs] at he hf
  obtain ⟨xs, hxs⟩ : ∃ s, s = bs ex := ⟨_, rfl⟩
  obtain ⟨ys, hys⟩ : ∃ s, s = bs fx := ⟨_, rfl⟩
  have x1 : Hid (∀ V g1 g2, Below w.heap.size w V → rowE V g1 [.int .i64 ek, .int .i64 en, .string xs, .int .i64 eo, .slice E egs.length k1, .int .i64 el, .int .i64 ec] → rowT V g2 g1 → SR V (some ⟨g2, 0, none⟩) [.mk 4 [] [.mk ek en ex eo egs el ec] [] [] 0 0]) := fun V g1 g2 hb h1 h2 => by
    rw [hxs] at h1
    exact rowS1 h2 (rowX1 h1 (he.sub (Sub.below hb)))
  have x2 : Hid (∀ V g1 g2, Below w.heap.size w V → rowE V g1 [.int .i64 fk, .int .i64 fn, .string ys, .int .i64 fo, .slice F fgs.length k2, .int .i64 fl, .int .i64 fc] → rowT V g2 g1 → SR V (some ⟨g2, 0, none⟩) [.mk 4 [] [.mk fk fn fx fo fgs fl fc] [] [] 0 0]) := fun V g1 g2 hb h1 h2 => by
    rw [hys] at h1
    exact rowS1 h2 (rowX1 h1 (hf.sub (Sub.below hb)))
  unfold pval xval at *
  simp only [XV.k, XV.n, XV.x, XV.o, XV.gs, XV.l, XV.c, List.length_cons, List.length_nil, Nat.zero_add] at *
  rw [show (⟨ex.toArray⟩ : ByteArray) = bs ex from rfl, ← hxs] at q1 s2 ⊢
  rw [show (⟨fx.toArray⟩ : ByteArray) = bs fx from rfl, ← hys] at q2 s2 ⊢
  clear hs hs' hse hsf hi im hR hi' im' hR' ie jf hL hx hy hcap hx' hy' hcap' he hf hc1 hc2 hc3 hc4 hTp hTq hTe hTf hR1 hR2 hS1 hX1 hX2 hS2 hxs hys
  generalize ds.length = n1 at *
  generalize mn.length = n2 at *
  generalize es.length = n3 at *
  generalize mm.length = n4 at *
  generalize egs.length = m1 at *
  generalize fgs.length = m2 at *
  have K0 := Lib.hid (SK.made w [.slice A n1 c, .slice B n2 c'] [.slice A' n3 d, .slice B' n4 d'] [.int .i64 ek, .int .i64 en, .string xs, .int .i64 eo, .slice E m1 k1, .int .i64 el, .int .i64 ec] [.int .i64 fk, .int .i64 fn, .string ys, .int .i64 fo, .slice F m2 k2, .int .i64 fl, .int .i64 fc] 25 25 32 32)
  go_enter Tryd.func3, Tryd.ntmps3
  have s0 := And.intro K0.out.p.two (And.intro K0.out.q.two (And.intro K0.out.a.seven K0.out.b.seven))
  go_wp2_with fail
  refine (f1.out _ K0.out.bel).mono ?_
  rintro r V1 ⟨⟨b1, rfl⟩, hb⟩
  have K1 := Lib.hid (K0.out.step hb)
  clear hb s0
  have s0 := And.intro K1.out.p.two (And.intro K1.out.q.two (And.intro K1.out.a.seven K1.out.b.seven))
  cases b1 with
  | false =>
    go_wp2_with fail
    refine (Wk.out _ K1.out.bel).mono ?_
    rintro r V2 ⟨rfl, hb⟩
    have K2 := Lib.hid (bth5 K1.out.bel hb)
    clear hb s0
    go_wp2_with fail
    go_ret
    exact ⟨rfl, K2.out⟩
  | true =>
  go_wp2_with fail
  refine (f2.out _ K1.out.bel).mono ?_
  rintro r V2 ⟨⟨b2, rfl⟩, hb⟩
  have K2 := Lib.hid (K1.out.step hb)
  clear hb s0
  have s0 := And.intro K2.out.p.two (And.intro K2.out.q.two (And.intro K2.out.a.seven K2.out.b.seven))
  cases b2 with
  | false =>
    go_wp2_with fail
    refine (Wk.out _ K2.out.bel).mono ?_
    rintro r V3 ⟨rfl, hb⟩
    have K3 := Lib.hid (bth5 K2.out.bel hb)
    clear hb s0
    go_wp2_with fail
    go_ret
    exact ⟨rfl, K3.out⟩
  | true =>
  go_wp2_with fail
  have K2' := Lib.hid K2.out.drew
  clear K0 K1 K2 s0
  refine wp_region_any (by kernel_rfl) ?_
  refine wpAny_inv (md := .any) (fun L a W => ∃ t9 t10 t20 t21 t22 t23 t24 t25 t26 t27 t28 t29, a = (⟨#[.agg #[.slice A n1 c, .slice B n2 c'], .agg #[.slice A' n3 d, .slice B' n4 d'], .agg #[.int .i64 ek, .int .i64 en, .string xs, .int .i64 eo, .slice E m1 k1, .int .i64 el, .int .i64 ec], .agg #[.int .i64 fk, .int .i64 fn, .string ys, .int .i64 fo, .slice F m2 k2, .int .i64 fl, .int .i64 fc], .pointer (some ⟨w.heap.size, 0, none⟩), .pointer (some ⟨w.heap.size + 1, 0, none⟩), .pointer (some ⟨w.heap.size + 1 + 1, 0, none⟩), .pointer (some ⟨w.heap.size + 1 + 1 + 1, 0, none⟩), .bool false, t9, t10, .agg #[.slice A n1 c, .slice B n2 c'], .bool true, .bool false, .bool false, .agg #[.slice A' n3 d, .slice B' n4 d'], .bool true, .bool false, .bool false, undef, t20, t21, t22, t23, t24, t25, t26, t27, t28, t29, undef, undef, undef, undef, undef, undef, undef, undef, undef, undef, undef, undef, undef, undef, undef, undef, undef, undef, undef, undef, undef, undef, undef, undef, undef, undef, undef, undef, undef, undef, undef, undef, undef, undef, undef, undef, undef, undef, undef, undef, undef, undef, undef, undef, undef, undef, undef, undef, undef, undef, undef, undef, undef, undef, undef, undef, undef, undef, undef, undef], []⟩ : Act) ∧ I3 w [.slice A n1 c, .slice B n2 c'] [.slice A' n3 d, .slice B' n4 d'] [.int .i64 ek, .int .i64 en, .string xs, .int .i64 eo, .slice E m1 k1, .int .i64 el, .int .i64 ec] [.int .i64 fk, .int .i64 fn, .string ys, .int .i64 fo, .slice F m2 k2, .int .i64 fl, .int .i64 fc] L t9 t10 t20 t21 t22 t23 t24 t25 t26 t27 t28 t29 W) (by kernel_rfl) ?hfin ?hstep _ _ _ _ (by rfl) (by decide) ?h0
  case h0 =>
    refine ⟨_, _, _, _, _, _, _, _, _, _, _, _, rfl, K2'.out, ⟨?_, ?_, ?_, ?_, ?_⟩, ⟨?_, ?_, ?_, ?_, ?_⟩, ?_, ?_, ?_, ?_, ?_, ?_, ?_⟩ <;> (intro h; first | (rw [lis_none] at h; cases h) | (intro h2; rw [lis_none] at h; cases h))
  case hstep =>
    rintro L a W i op ⟨t9, t10, t20, t21, t22, t23, t24, t25, t26, t27, t28, t29, rfl, hI⟩ ho hv hd
    have hlt : i < 14 := by
      rcases Nat.lt_or_ge i 14 with h | h
      · exact h
      · exfalso
        rw [Array.getElem?_eq_none (by exact h)] at ho
        cases ho
    obtain rfl | rfl | rfl | rfl | rfl | rfl | rfl | rfl | rfl | rfl | rfl | rfl | rfl | rfl : i = 0 ∨ i = 1 ∨ i = 2 ∨ i = 3 ∨ i = 4 ∨ i = 5 ∨ i = 6 ∨ i = 7 ∨ i = 8 ∨ i = 9 ∨ i = 10 ∨ i = 11 ∨ i = 12 ∨ i = 13 := by omega
    · injection (show some ({ dst := some 20, op := Go.Op.load 32 (Go.Operand.tmp 6), type := 32, pos := "law.go:56", after := #[], guard := none }) = some op from ho) with ho2
      subst ho2
      refine wpOp_of (o := { dst := some 20, op := Go.Op.load 32 (Go.Operand.tmp 6), type := 32, pos := "law.go:56", after := #[], guard := none }) rfl rfl (fun K hK => ?_)
      clear ho hd hv hlt
      have s0 := hI.sk.a.seven
      go_simp
      exact hK.out _ _ ⟨t9, t10, (.agg #[.int .i64 ek, .int .i64 en, .string xs, .int .i64 eo, .slice E m1 k1, .int .i64 el, .int .i64 ec]), t21, t22, t23, t24, t25, t26, t27, t28, t29, rfl, ⟨hI.sk, ⟨fun _ => rfl, hI.ha.a1, hI.ha.a2, hI.ha.a3, hI.ha.a4⟩, ⟨hI.hb.a0, hI.hb.a1, hI.hb.a2, hI.hb.a3, hI.hb.a4⟩, hI.px, hI.py, hI.ne, hI.sx, hI.sy, hI.ox, hI.oy⟩⟩
    · injection (show some ({ dst := some 21, op := Go.Op.buildSlice 28 1 #[(0, Go.Operand.tmp 20)], type := 28, pos := "law.go:56", after := #[{ on := 0, ground := Go.Ground.data }], guard := none }) = some op from ho) with ho2
      subst ho2
      have d0 : L 0 = true := hd ⟨0, .data⟩ (by simp) rfl
      refine wpOp_of (o := { dst := some 21, op := Go.Op.buildSlice 28 1 #[(0, Go.Operand.tmp 20)], type := 28, pos := "law.go:56", after := #[{ on := 0, ground := Go.Ground.data }], guard := none }) rfl rfl (fun K hK => ?_)
      clear ho hd hv hlt
      obtain rfl := hI.ha.a0 d0
      go_simp
      have hJ := hI.alloc (.cells #[.int .i64 ek, .int .i64 en, .string xs, .int .i64 eo, .slice E m1 k1, .int .i64 el, .int .i64 ec] 32)
      exact hK.out _ _ ⟨t9, t10, _, _, t22, t23, t24, t25, t26, t27, t28, t29, rfl, ⟨hJ.sk, ⟨hJ.ha.a0, fun _ => ⟨W.heap.size, rfl, heap_alloc_new W _⟩, hJ.ha.a2, hJ.ha.a3, hJ.ha.a4⟩, ⟨hJ.hb.a0, hJ.hb.a1, hJ.hb.a2, hJ.hb.a3, hJ.hb.a4⟩, hJ.px, hJ.py, hJ.ne, hJ.sx, hJ.sy, hJ.ox, hJ.oy⟩⟩
    · injection (show some ({ dst := some 22, op := Go.Op.build 37 #[(0, Go.Operand.const (Go.Value.int Go.IntKind.i64 4)), (2, Go.Operand.tmp 21)], type := 37, pos := "law.go:56", after := #[{ on := 1, ground := Go.Ground.data }], guard := none }) = some op from ho) with ho2
      subst ho2
      have d1 : L 1 = true := hd ⟨1, .data⟩ (by simp) rfl
      refine wpOp_of (o := { dst := some 22, op := Go.Op.build 37 #[(0, Go.Operand.const (Go.Value.int Go.IntKind.i64 4)), (2, Go.Operand.tmp 21)], type := 37, pos := "law.go:56", after := #[{ on := 1, ground := Go.Ground.data }], guard := none }) rfl rfl (fun K hK => ?_)
      clear ho hd hv hlt
      obtain ⟨g, rfl, hr⟩ := hI.ha.a1 d1
      go_simp
      exact hK.out _ _ ⟨t9, t10, t20, _, _, t23, t24, t25, t26, t27, t28, t29, rfl, ⟨hI.sk, ⟨hI.ha.a0, hI.ha.a1, fun _ => ⟨g, rfl, hr⟩, hI.ha.a3, hI.ha.a4⟩, ⟨hI.hb.a0, hI.hb.a1, hI.hb.a2, hI.hb.a3, hI.hb.a4⟩, hI.px, hI.py, hI.ne, hI.sx, hI.sy, hI.ox, hI.oy⟩⟩
    · injection (show some ({ dst := some 23, op := Go.Op.buildSlice 23 1 #[(0, Go.Operand.tmp 22)], type := 23, pos := "law.go:56", after := #[{ on := 2, ground := Go.Ground.data }], guard := none }) = some op from ho) with ho2
      subst ho2
      have d2 : L 2 = true := hd ⟨2, .data⟩ (by simp) rfl
      refine wpOp_of (o := { dst := some 23, op := Go.Op.buildSlice 23 1 #[(0, Go.Operand.tmp 22)], type := 23, pos := "law.go:56", after := #[{ on := 2, ground := Go.Ground.data }], guard := none }) rfl rfl (fun K hK => ?_)
      clear ho hd hv hlt
      obtain ⟨g, rfl, hr⟩ := hI.ha.a2 d2
      go_simp
      have hJ := hI.alloc (.cells #[.int .i64 4, .string ⟨#[]⟩, .slice (some ⟨g, 0, none⟩) 1 1, .slice none 0 0, .slice none 0 0, .int .i64 0, .int .i64 0] 37)
      exact hK.out _ _ ⟨t9, t10, t20, t21, _, _, t24, t25, t26, t27, t28, t29, rfl, ⟨hJ.sk, ⟨hJ.ha.a0, hJ.ha.a1, hJ.ha.a2, fun _ => ⟨g, W.heap.size, rfl, hr.kz (Kz.alloc _ _), heap_alloc_new W _⟩, hJ.ha.a4⟩, ⟨hJ.hb.a0, hJ.hb.a1, hJ.hb.a2, hJ.hb.a3, hJ.hb.a4⟩, hJ.px, hJ.py, hJ.ne, hJ.sx, hJ.sy, hJ.ox, hJ.oy⟩⟩
    · injection (show some ({ dst := some 24, op := Go.Op.build 25 #[(1, Go.Operand.tmp 23)], type := 25, pos := "law.go:56", after := #[{ on := 3, ground := Go.Ground.data }], guard := none }) = some op from ho) with ho2
      subst ho2
      have d3 : L 3 = true := hd ⟨3, .data⟩ (by simp) rfl
      refine wpOp_of (o := { dst := some 24, op := Go.Op.build 25 #[(1, Go.Operand.tmp 23)], type := 25, pos := "law.go:56", after := #[{ on := 3, ground := Go.Ground.data }], guard := none }) rfl rfl (fun K hK => ?_)
      clear ho hd hv hlt
      obtain ⟨g, g2, rfl, hr, hr2⟩ := hI.ha.a3 d3
      go_simp
      exact hK.out _ _ ⟨t9, t10, t20, t21, t22, _, _, t25, t26, t27, t28, t29, rfl, ⟨hI.sk, ⟨hI.ha.a0, hI.ha.a1, hI.ha.a2, hI.ha.a3, fun _ => ⟨g, g2, rfl, hr, hr2⟩⟩, ⟨hI.hb.a0, hI.hb.a1, hI.hb.a2, hI.hb.a3, hI.hb.a4⟩, hI.px, hI.py, hI.ne, hI.sx, hI.sy, hI.ox, hI.oy⟩⟩
    · injection (show some ({ dst := some 25, op := Go.Op.load 32 (Go.Operand.tmp 7), type := 32, pos := "law.go:56", after := #[{ on := 12, ground := Go.Ground.gcOnly Go.Departure.lateStores }], guard := none }) = some op from ho) with ho2
      subst ho2
      refine wpOp_of (o := { dst := some 25, op := Go.Op.load 32 (Go.Operand.tmp 7), type := 32, pos := "law.go:56", after := #[{ on := 12, ground := Go.Ground.gcOnly Go.Departure.lateStores }], guard := none }) rfl rfl (fun K hK => ?_)
      clear ho hd hv hlt
      have s0 := hI.sk.b.seven
      go_simp
      exact hK.out _ _ ⟨t9, t10, t20, t21, t22, t23, t24, (.agg #[.int .i64 fk, .int .i64 fn, .string ys, .int .i64 fo, .slice F m2 k2, .int .i64 fl, .int .i64 fc]), t26, t27, t28, t29, rfl, ⟨hI.sk, ⟨hI.ha.a0, hI.ha.a1, hI.ha.a2, hI.ha.a3, hI.ha.a4⟩, ⟨fun _ => rfl, hI.hb.a1, hI.hb.a2, hI.hb.a3, hI.hb.a4⟩, hI.px, hI.py, hI.ne, hI.sx, hI.sy, hI.ox, hI.oy⟩⟩
    · injection (show some ({ dst := some 26, op := Go.Op.buildSlice 28 1 #[(0, Go.Operand.tmp 25)], type := 28, pos := "law.go:56", after := #[{ on := 5, ground := Go.Ground.data }, { on := 12, ground := Go.Ground.gcOnly Go.Departure.lateStores }], guard := none }) = some op from ho) with ho2
      subst ho2
      have d5 : L 5 = true := hd ⟨5, .data⟩ (by simp) rfl
      refine wpOp_of (o := { dst := some 26, op := Go.Op.buildSlice 28 1 #[(0, Go.Operand.tmp 25)], type := 28, pos := "law.go:56", after := #[{ on := 5, ground := Go.Ground.data }, { on := 12, ground := Go.Ground.gcOnly Go.Departure.lateStores }], guard := none }) rfl rfl (fun K hK => ?_)
      clear ho hd hv hlt
      obtain rfl := hI.hb.a0 d5
      go_simp
      have hJ := hI.alloc (.cells #[.int .i64 fk, .int .i64 fn, .string ys, .int .i64 fo, .slice F m2 k2, .int .i64 fl, .int .i64 fc] 32)
      exact hK.out _ _ ⟨t9, t10, t20, t21, t22, t23, t24, _, _, t27, t28, t29, rfl, ⟨hJ.sk, ⟨hJ.ha.a0, hJ.ha.a1, hJ.ha.a2, hJ.ha.a3, hJ.ha.a4⟩, ⟨hJ.hb.a0, fun _ => ⟨W.heap.size, rfl, heap_alloc_new W _⟩, hJ.hb.a2, hJ.hb.a3, hJ.hb.a4⟩, hJ.px, hJ.py, hJ.ne, hJ.sx, hJ.sy, hJ.ox, hJ.oy⟩⟩
    · injection (show some ({ dst := some 27, op := Go.Op.build 37 #[(0, Go.Operand.const (Go.Value.int Go.IntKind.i64 4)), (2, Go.Operand.tmp 26)], type := 37, pos := "law.go:56", after := #[{ on := 6, ground := Go.Ground.data }, { on := 12, ground := Go.Ground.gcOnly Go.Departure.lateStores }], guard := none }) = some op from ho) with ho2
      subst ho2
      have d6 : L 6 = true := hd ⟨6, .data⟩ (by simp) rfl
      refine wpOp_of (o := { dst := some 27, op := Go.Op.build 37 #[(0, Go.Operand.const (Go.Value.int Go.IntKind.i64 4)), (2, Go.Operand.tmp 26)], type := 37, pos := "law.go:56", after := #[{ on := 6, ground := Go.Ground.data }, { on := 12, ground := Go.Ground.gcOnly Go.Departure.lateStores }], guard := none }) rfl rfl (fun K hK => ?_)
      clear ho hd hv hlt
      obtain ⟨g, rfl, hr⟩ := hI.hb.a1 d6
      go_simp
      exact hK.out _ _ ⟨t9, t10, t20, t21, t22, t23, t24, t25, _, _, t28, t29, rfl, ⟨hI.sk, ⟨hI.ha.a0, hI.ha.a1, hI.ha.a2, hI.ha.a3, hI.ha.a4⟩, ⟨hI.hb.a0, hI.hb.a1, fun _ => ⟨g, rfl, hr⟩, hI.hb.a3, hI.hb.a4⟩, hI.px, hI.py, hI.ne, hI.sx, hI.sy, hI.ox, hI.oy⟩⟩
    · injection (show some ({ dst := some 28, op := Go.Op.buildSlice 23 1 #[(0, Go.Operand.tmp 27)], type := 23, pos := "law.go:56", after := #[{ on := 7, ground := Go.Ground.data }, { on := 12, ground := Go.Ground.gcOnly Go.Departure.lateStores }], guard := none }) = some op from ho) with ho2
      subst ho2
      have d7 : L 7 = true := hd ⟨7, .data⟩ (by simp) rfl
      refine wpOp_of (o := { dst := some 28, op := Go.Op.buildSlice 23 1 #[(0, Go.Operand.tmp 27)], type := 23, pos := "law.go:56", after := #[{ on := 7, ground := Go.Ground.data }, { on := 12, ground := Go.Ground.gcOnly Go.Departure.lateStores }], guard := none }) rfl rfl (fun K hK => ?_)
      clear ho hd hv hlt
      obtain ⟨g, rfl, hr⟩ := hI.hb.a2 d7
      go_simp
      have hJ := hI.alloc (.cells #[.int .i64 4, .string ⟨#[]⟩, .slice (some ⟨g, 0, none⟩) 1 1, .slice none 0 0, .slice none 0 0, .int .i64 0, .int .i64 0] 37)
      exact hK.out _ _ ⟨t9, t10, t20, t21, t22, t23, t24, t25, t26, _, _, t29, rfl, ⟨hJ.sk, ⟨hJ.ha.a0, hJ.ha.a1, hJ.ha.a2, hJ.ha.a3, hJ.ha.a4⟩, ⟨hJ.hb.a0, hJ.hb.a1, hJ.hb.a2, fun _ => ⟨g, W.heap.size, rfl, hr.kz (Kz.alloc _ _), heap_alloc_new W _⟩, hJ.hb.a4⟩, hJ.px, hJ.py, hJ.ne, hJ.sx, hJ.sy, hJ.ox, hJ.oy⟩⟩
    · injection (show some ({ dst := some 29, op := Go.Op.build 25 #[(1, Go.Operand.tmp 28)], type := 25, pos := "law.go:56", after := #[{ on := 8, ground := Go.Ground.data }, { on := 12, ground := Go.Ground.gcOnly Go.Departure.lateStores }], guard := none }) = some op from ho) with ho2
      subst ho2
      have d8 : L 8 = true := hd ⟨8, .data⟩ (by simp) rfl
      refine wpOp_of (o := { dst := some 29, op := Go.Op.build 25 #[(1, Go.Operand.tmp 28)], type := 25, pos := "law.go:56", after := #[{ on := 8, ground := Go.Ground.data }, { on := 12, ground := Go.Ground.gcOnly Go.Departure.lateStores }], guard := none }) rfl rfl (fun K hK => ?_)
      clear ho hd hv hlt
      obtain ⟨g, g2, rfl, hr, hr2⟩ := hI.hb.a3 d8
      go_simp
      exact hK.out _ _ ⟨t9, t10, t20, t21, t22, t23, t24, t25, t26, t27, _, _, rfl, ⟨hI.sk, ⟨hI.ha.a0, hI.ha.a1, hI.ha.a2, hI.ha.a3, hI.ha.a4⟩, ⟨hI.hb.a0, hI.hb.a1, hI.hb.a2, hI.hb.a3, fun _ => ⟨g, g2, rfl, hr, hr2⟩⟩, hI.px, hI.py, hI.ne, hI.sx, hI.sy, hI.ox, hI.oy⟩⟩
    · injection (show some ({ dst := some 9, op := Go.Op.alloc 25, type := 0, pos := "law.go:56", after := #[], guard := none }) = some op from ho) with ho2
      subst ho2
      refine wpOp_of (o := { dst := some 9, op := Go.Op.alloc 25, type := 0, pos := "law.go:56", after := #[], guard := none }) rfl rfl (fun K hK => ?_)
      have hv0 := hv
      clear ho hd hv hlt
      go_simp
      have hJ := hI.alloc (.cells #[.slice none 0 0, .slice none 0 0] 25)
      exact hK.out _ _ ⟨_, t10, t20, t21, t22, t23, t24, t25, t26, t27, t28, t29, rfl, ⟨hJ.sk, ⟨hJ.ha.a0, hJ.ha.a1, hJ.ha.a2, hJ.ha.a3, hJ.ha.a4⟩, ⟨hJ.hb.a0, hJ.hb.a1, hJ.hb.a2, hJ.hb.a3, hJ.hb.a4⟩, fun _ => ⟨W.heap.size, rfl, hI.sk.le, _, _, heap_alloc_new W _⟩, hJ.py, (fun _ l => by obtain ⟨g, e, -, ha⟩ := hI.py l; rw [e]; intro h; injection h with h; injection h with h; injection h with h; have := ha.lt; omega), (fun l => absurd (hI.ox l) (by rw [hv0]; simp)), hJ.sy, (fun _ => rfl), hJ.oy⟩⟩
    · injection (show some ({ dst := some 10, op := Go.Op.alloc 25, type := 0, pos := "law.go:56", after := #[], guard := none }) = some op from ho) with ho2
      subst ho2
      refine wpOp_of (o := { dst := some 10, op := Go.Op.alloc 25, type := 0, pos := "law.go:56", after := #[], guard := none }) rfl rfl (fun K hK => ?_)
      have hv0 := hv
      clear ho hd hv hlt
      go_simp
      have hJ := hI.alloc (.cells #[.slice none 0 0, .slice none 0 0] 25)
      exact hK.out _ _ ⟨t9, _, t20, t21, t22, t23, t24, t25, t26, t27, t28, t29, rfl, ⟨hJ.sk, ⟨hJ.ha.a0, hJ.ha.a1, hJ.ha.a2, hJ.ha.a3, hJ.ha.a4⟩, ⟨hJ.hb.a0, hJ.hb.a1, hJ.hb.a2, hJ.hb.a3, hJ.hb.a4⟩, hJ.px, fun _ => ⟨W.heap.size, rfl, hI.sk.le, _, _, heap_alloc_new W _⟩, (fun l _ => by obtain ⟨g, e, -, ha⟩ := hI.px l; rw [e]; intro h; injection h with h; injection h with h; injection h with h; have := ha.lt; omega), hJ.sx, (fun l => absurd (hI.oy l) (by rw [hv0]; simp)), hJ.ox, (fun _ => rfl)⟩⟩
    · injection (show some ({ dst := none, op := Go.Op.store 25 (Go.Operand.tmp 9) (Go.Operand.tmp 24), type := 0, pos := "law.go:56", after := #[{ on := 10, ground := Go.Ground.data }, { on := 4, ground := Go.Ground.data }, { on := 0, ground := Go.Ground.phase }, { on := 1, ground := Go.Ground.phase }, { on := 2, ground := Go.Ground.phase }, { on := 3, ground := Go.Ground.phase }, { on := 4, ground := Go.Ground.phase }, { on := 5, ground := Go.Ground.textOnly Go.Departure.lateStores }, { on := 6, ground := Go.Ground.textOnly Go.Departure.lateStores }, { on := 7, ground := Go.Ground.textOnly Go.Departure.lateStores }, { on := 8, ground := Go.Ground.textOnly Go.Departure.lateStores }, { on := 9, ground := Go.Ground.textOnly Go.Departure.lateStores }, { on := 10, ground := Go.Ground.phase }, { on := 11, ground := Go.Ground.phase }], guard := none }) = some op from ho) with ho2
      subst ho2
      have d10 : L 10 = true := hd ⟨10, .data⟩ (by simp) rfl
      have d4 : L 4 = true := hd ⟨4, .data⟩ (by simp) rfl
      refine wpOp_of (o := { dst := none, op := Go.Op.store 25 (Go.Operand.tmp 9) (Go.Operand.tmp 24), type := 0, pos := "law.go:56", after := #[{ on := 10, ground := Go.Ground.data }, { on := 4, ground := Go.Ground.data }, { on := 0, ground := Go.Ground.phase }, { on := 1, ground := Go.Ground.phase }, { on := 2, ground := Go.Ground.phase }, { on := 3, ground := Go.Ground.phase }, { on := 4, ground := Go.Ground.phase }, { on := 5, ground := Go.Ground.textOnly Go.Departure.lateStores }, { on := 6, ground := Go.Ground.textOnly Go.Departure.lateStores }, { on := 7, ground := Go.Ground.textOnly Go.Departure.lateStores }, { on := 8, ground := Go.Ground.textOnly Go.Departure.lateStores }, { on := 9, ground := Go.Ground.textOnly Go.Departure.lateStores }, { on := 10, ground := Go.Ground.phase }, { on := 11, ground := Go.Ground.phase }], guard := none }) rfl rfl (fun K hK => ?_)
      clear ho hd hv hlt
      obtain ⟨g, rfl, hge, hg⟩ := hI.px d10
      obtain ⟨g1, g2, rfl, hr1, hr2⟩ := hI.ha.a4 d4
      have hz := put2_kz hg (.slice none 0 0) (.slice (some ⟨g2, 0, none⟩) 1 1)
      obtain ⟨u, v, hgc⟩ := hg
      have c0 : W.cell? ⟨g, 0, none⟩ = some u := by rw [Lib.cell_of_heap hgc]; rfl
      have c1 : W.cell? ⟨g, 1, none⟩ = some v := by rw [Lib.cell_of_heap hgc]; rfl
      have e0 := Lib.frozen_of_heap hgc 0
      have e1 := Lib.frozen_of_heap hgc 1
      go_simp
      have hg : anyP W g := ⟨u, v, hgc⟩
      have hoth : L 13 = true → ∃ j j1 j2, t10 = .pointer (some ⟨j, 0, none⟩) ∧ rowP (put2 W g (.slice none 0 0) (.slice (some ⟨g2, 0, none⟩) 1 1)) j j2 ∧ rowE (put2 W g (.slice none 0 0) (.slice (some ⟨g2, 0, none⟩) 1 1)) j1 [.int .i64 fk, .int .i64 fn, .string ys, .int .i64 fo, .slice F m2 k2, .int .i64 fl, .int .i64 fc] ∧ rowT (put2 W g (.slice none 0 0) (.slice (some ⟨g2, 0, none⟩) 1 1)) j2 j1 := fun l => by
        obtain ⟨j, j1, j2, e, a1, a2, a3⟩ := hI.sy l
        have hkg : j ≠ g := by
          rintro rfl
          exact hI.ne d10 (hI.oy l) e.symm
        exact ⟨j, j1, j2, e, (put2_far hkg _ _).trans a1, a2.kz hz, a3.kz hz⟩
      exact hK.out _ _ ⟨_, t10, t20, t21, t22, t23, _, t25, t26, t27, t28, t29, rfl, ⟨hI.sk.put2 hge _ _, ⟨(hI.ha.kz hz).a0, (hI.ha.kz hz).a1, (hI.ha.kz hz).a2, (hI.ha.kz hz).a3, (hI.ha.kz hz).a4⟩, ⟨(hI.hb.kz hz).a0, (hI.hb.kz hz).a1, (hI.hb.kz hz).a2, (hI.hb.kz hz).a3, (hI.hb.kz hz).a4⟩, (fun _ => ⟨g, rfl, hge, hg.put2 hg _ _⟩), (fun l => by obtain ⟨k, e, a, b⟩ := hI.py l; exact ⟨k, e, a, hg.put2 b _ _⟩), hI.ne, (fun _ => ⟨g, g1, g2, rfl, put2_at hg _ _, hr1.kz hz, hr2.kz hz⟩), hoth, (fun _ => d10), hI.oy⟩⟩
    · injection (show some ({ dst := none, op := Go.Op.store 25 (Go.Operand.tmp 10) (Go.Operand.tmp 29), type := 0, pos := "law.go:56", after := #[{ on := 11, ground := Go.Ground.data }, { on := 9, ground := Go.Ground.data }, { on := 12, ground := Go.Ground.chain }, { on := 0, ground := Go.Ground.phase }, { on := 1, ground := Go.Ground.phase }, { on := 2, ground := Go.Ground.phase }, { on := 3, ground := Go.Ground.phase }, { on := 4, ground := Go.Ground.phase }, { on := 5, ground := Go.Ground.phase }, { on := 6, ground := Go.Ground.phase }, { on := 7, ground := Go.Ground.phase }, { on := 8, ground := Go.Ground.phase }, { on := 9, ground := Go.Ground.phase }, { on := 10, ground := Go.Ground.phase }, { on := 11, ground := Go.Ground.phase }, { on := 12, ground := Go.Ground.phase }], guard := none }) = some op from ho) with ho2
      subst ho2
      have d11 : L 11 = true := hd ⟨11, .data⟩ (by simp) rfl
      have d9 : L 9 = true := hd ⟨9, .data⟩ (by simp) rfl
      refine wpOp_of (o := { dst := none, op := Go.Op.store 25 (Go.Operand.tmp 10) (Go.Operand.tmp 29), type := 0, pos := "law.go:56", after := #[{ on := 11, ground := Go.Ground.data }, { on := 9, ground := Go.Ground.data }, { on := 12, ground := Go.Ground.chain }, { on := 0, ground := Go.Ground.phase }, { on := 1, ground := Go.Ground.phase }, { on := 2, ground := Go.Ground.phase }, { on := 3, ground := Go.Ground.phase }, { on := 4, ground := Go.Ground.phase }, { on := 5, ground := Go.Ground.phase }, { on := 6, ground := Go.Ground.phase }, { on := 7, ground := Go.Ground.phase }, { on := 8, ground := Go.Ground.phase }, { on := 9, ground := Go.Ground.phase }, { on := 10, ground := Go.Ground.phase }, { on := 11, ground := Go.Ground.phase }, { on := 12, ground := Go.Ground.phase }], guard := none }) rfl rfl (fun K hK => ?_)
      clear ho hd hv hlt
      obtain ⟨g, rfl, hge, hg⟩ := hI.py d11
      obtain ⟨g1, g2, rfl, hr1, hr2⟩ := hI.hb.a4 d9
      have hz := put2_kz hg (.slice none 0 0) (.slice (some ⟨g2, 0, none⟩) 1 1)
      obtain ⟨u, v, hgc⟩ := hg
      have c0 : W.cell? ⟨g, 0, none⟩ = some u := by rw [Lib.cell_of_heap hgc]; rfl
      have c1 : W.cell? ⟨g, 1, none⟩ = some v := by rw [Lib.cell_of_heap hgc]; rfl
      have e0 := Lib.frozen_of_heap hgc 0
      have e1 := Lib.frozen_of_heap hgc 1
      go_simp
      have hg : anyP W g := ⟨u, v, hgc⟩
      have hoth : L 12 = true → ∃ j j1 j2, t9 = .pointer (some ⟨j, 0, none⟩) ∧ rowP (put2 W g (.slice none 0 0) (.slice (some ⟨g2, 0, none⟩) 1 1)) j j2 ∧ rowE (put2 W g (.slice none 0 0) (.slice (some ⟨g2, 0, none⟩) 1 1)) j1 [.int .i64 ek, .int .i64 en, .string xs, .int .i64 eo, .slice E m1 k1, .int .i64 el, .int .i64 ec] ∧ rowT (put2 W g (.slice none 0 0) (.slice (some ⟨g2, 0, none⟩) 1 1)) j2 j1 := fun l => by
        obtain ⟨j, j1, j2, e, a1, a2, a3⟩ := hI.sx l
        have hkg : j ≠ g := by
          rintro rfl
          exact hI.ne (hI.ox l) d11 e
        exact ⟨j, j1, j2, e, (put2_far hkg _ _).trans a1, a2.kz hz, a3.kz hz⟩
      exact hK.out _ _ ⟨t9, _, t20, t21, t22, t23, t24, t25, t26, t27, t28, _, rfl, ⟨hI.sk.put2 hge _ _, ⟨(hI.ha.kz hz).a0, (hI.ha.kz hz).a1, (hI.ha.kz hz).a2, (hI.ha.kz hz).a3, (hI.ha.kz hz).a4⟩, ⟨(hI.hb.kz hz).a0, (hI.hb.kz hz).a1, (hI.hb.kz hz).a2, (hI.hb.kz hz).a3, (hI.hb.kz hz).a4⟩, (fun l => by obtain ⟨k, e, a, b⟩ := hI.px l; exact ⟨k, e, a, hg.put2 b _ _⟩), (fun _ => ⟨g, rfl, hge, hg.put2 hg _ _⟩), hI.ne, hoth, (fun _ => ⟨g, g1, g2, rfl, put2_at hg _ _, hr1.kz hz, hr2.kz hz⟩), hI.ox, (fun _ => d11)⟩⟩
  case hfin =>
    rintro L a W ⟨t9, t10, t20, t21, t22, t23, t24, t25, t26, t27, t28, t29, rfl, hI⟩ hall
    obtain ⟨g9, u1, u2, rfl, y1, y2, y3⟩ := hI.sx (hall 12 (by decide))
    obtain ⟨g10, v1, v2, rfl, z1, z2, z3⟩ := hI.sy (hall 13 (by decide))
    have Q0 := Lib.hid (SQ.mk hI.sk y1 z1 (x1.out W u1 u2 hI.sk.bel y2 y3) (x2.out W v1 v2 hI.sk.bel z2 z3))
    clear hI hall y1 y2 y3 z1 z2 z3 K2' x1 x2
    have s0 := And.intro Q0.out.sk.p.two (And.intro Q0.out.sk.q.two (And.intro Q0.out.sk.a.seven (And.intro Q0.out.sk.b.seven (And.intro Q0.out.x.two Q0.out.y.two))))
    go_wp2_with fail
    refine (f3.out _ _ Q0.out.sk.bel Q0.out.sx).mono ?_
    rintro r V3 ⟨⟨b3, rfl⟩, hb⟩
    have Q1 := Lib.hid (Q0.out.step hb)
    clear hb s0 Q0
    have s0 := And.intro Q1.out.sk.p.two (And.intro Q1.out.sk.q.two (And.intro Q1.out.sk.a.seven (And.intro Q1.out.sk.b.seven (And.intro Q1.out.x.two Q1.out.y.two))))
    cases b3 with
    | false =>
      go_wp2_with fail
      refine (Wk.out _ Q1.out.sk.bel).mono ?_
      rintro r V9 ⟨rfl, hb⟩
      have K9 := Lib.hid (bth5 Q1.out.sk.bel hb)
      clear hb s0
      go_wp2_with fail
      go_ret
      exact ⟨rfl, K9.out⟩
    | true =>
    go_wp2_with fail
    refine (f4.out _ _ Q1.out.sk.bel Q1.out.sy).mono ?_
    rintro r V4 ⟨⟨b4, rfl⟩, hb⟩
    have Q2 := Lib.hid (Q1.out.step hb)
    clear hb s0 Q1
    have s0 := And.intro Q2.out.sk.p.two (And.intro Q2.out.sk.q.two (And.intro Q2.out.sk.a.seven (And.intro Q2.out.sk.b.seven (And.intro Q2.out.x.two Q2.out.y.two))))
    cases b4 with
    | false =>
      go_wp2_with fail
      refine (Wk.out _ Q2.out.sk.bel).mono ?_
      rintro r V9 ⟨rfl, hb⟩
      have K9 := Lib.hid (bth5 Q2.out.sk.bel hb)
      clear hb s0
      go_wp2_with fail
      go_ret
      exact ⟨rfl, K9.out⟩
    | true =>
    go_wp2_with fail
    rename_i K8 h8 K6 h6
    have H8 : Hid (∀ (r39 r40 r41 r42 r43 r44 r45 r46 r47 r48 r49 r50 r51 r52 r53 r54 r55 : Value) (V : World), SQ w [.slice A n1 c, .slice B n2 c'] [.slice A' n3 d, .slice B' n4 d'] [.int .i64 ek, .int .i64 en, .string xs, .int .i64 eo, .slice E m1 k1, .int .i64 el, .int .i64 ec] [.int .i64 fk, .int .i64 fn, .string ys, .int .i64 fo, .slice F m2 k2, .int .i64 fl, .int .i64 fc] g9 u2 g10 v2 (.mk 4 [] [.mk ek en ex eo egs el ec] [] [] 0 0) (.mk 4 [] [.mk fk fn fx fo fgs fl fc] [] [] 0 0) V → K8 (⟨#[.agg #[.slice A n1 c, .slice B n2 c'], .agg #[.slice A' n3 d, .slice B' n4 d'], .agg #[.int .i64 ek, .int .i64 en, .string xs, .int .i64 eo, .slice E m1 k1, .int .i64 el, .int .i64 ec], .agg #[.int .i64 fk, .int .i64 fn, .string ys, .int .i64 fo, .slice F m2 k2, .int .i64 fl, .int .i64 fc], .pointer (some ⟨w.heap.size, 0, none⟩), .pointer (some ⟨w.heap.size + 1, 0, none⟩), .pointer (some ⟨w.heap.size + 1 + 1, 0, none⟩), .pointer (some ⟨w.heap.size + 1 + 1 + 1, 0, none⟩), .bool false, .pointer (some ⟨g9, 0, none⟩), .pointer (some ⟨g10, 0, none⟩), .agg #[.slice A n1 c, .slice B n2 c'], .bool true, .bool false, .bool false, .agg #[.slice A' n3 d, .slice B' n4 d'], .bool true, .bool false, .bool false, undef, t20, t21, t22, t23, t24, t25, t26, t27, t28, t29, .agg #[.slice none 0 0, .slice (some ⟨u2, 0, none⟩) 1 1], .bool true, .bool false, .bool false, .agg #[.slice none 0 0, .slice (some ⟨v2, 0, none⟩) 1 1], .bool true, .bool false, .bool false, undef, r39, r40, r41, r42, r43, r44, r45, r46, r47, r48, r49, r50, r51, r52, r53, r54, r55, undef, undef, undef, undef, undef, undef, undef, undef, undef, undef, undef, undef, undef, undef, undef, undef, undef, undef, undef, undef, undef, undef, undef, undef, undef, undef, undef, undef, undef, undef, undef, undef, undef, undef], []⟩ : Act) V) := by
      intro r39 r40 r41 r42 r43 r44 r45 r46 r47 r48 r49 r50 r51 r52 r53 r54 r55 V hQ
      refine h8 _ _ ?_
      clear h8 h6 K6 Q2 s0
      have Q0 := Lib.hid hQ
      clear hQ
      have s0 := And.intro Q0.out.sk.p.two (And.intro Q0.out.sk.q.two (And.intro Q0.out.sk.a.seven (And.intro Q0.out.sk.b.seven (And.intro Q0.out.x.two Q0.out.y.two))))
      go_wp2_with fail
      rename_i K10 h10 K72 h72
      have H10 : Hid (∀ (r39 r40 r41 r42 r43 r44 r45 r46 r47 r48 r49 r50 r51 r52 r53 r54 r55 r56 r57 r58 r59 r60 r61 r62 r63 r64 r65 r66 r67 r68 r69 r70 r71 r72 : Value) (V : World), SQ w [.slice A n1 c, .slice B n2 c'] [.slice A' n3 d, .slice B' n4 d'] [.int .i64 ek, .int .i64 en, .string xs, .int .i64 eo, .slice E m1 k1, .int .i64 el, .int .i64 ec] [.int .i64 fk, .int .i64 fn, .string ys, .int .i64 fo, .slice F m2 k2, .int .i64 fl, .int .i64 fc] g9 u2 g10 v2 (.mk 4 [] [.mk ek en ex eo egs el ec] [] [] 0 0) (.mk 4 [] [.mk fk fn fx fo fgs fl fc] [] [] 0 0) V → K10 (⟨#[.agg #[.slice A n1 c, .slice B n2 c'], .agg #[.slice A' n3 d, .slice B' n4 d'], .agg #[.int .i64 ek, .int .i64 en, .string xs, .int .i64 eo, .slice E m1 k1, .int .i64 el, .int .i64 ec], .agg #[.int .i64 fk, .int .i64 fn, .string ys, .int .i64 fo, .slice F m2 k2, .int .i64 fl, .int .i64 fc], .pointer (some ⟨w.heap.size, 0, none⟩), .pointer (some ⟨w.heap.size + 1, 0, none⟩), .pointer (some ⟨w.heap.size + 1 + 1, 0, none⟩), .pointer (some ⟨w.heap.size + 1 + 1 + 1, 0, none⟩), .bool false, .pointer (some ⟨g9, 0, none⟩), .pointer (some ⟨g10, 0, none⟩), .agg #[.slice A n1 c, .slice B n2 c'], .bool true, .bool false, .bool false, .agg #[.slice A' n3 d, .slice B' n4 d'], .bool true, .bool false, .bool false, undef, t20, t21, t22, t23, t24, t25, t26, t27, t28, t29, .agg #[.slice none 0 0, .slice (some ⟨u2, 0, none⟩) 1 1], .bool true, .bool false, .bool false, .agg #[.slice none 0 0, .slice (some ⟨v2, 0, none⟩) 1 1], .bool true, .bool false, .bool false, undef, r39, r40, r41, r42, r43, r44, r45, r46, r47, r48, r49, r50, r51, r52, r53, r54, r55, r56, r57, r58, r59, r60, r61, r62, r63, r64, r65, r66, r67, r68, r69, r70, r71, r72, undef, undef, undef, undef, undef, undef, undef, undef, undef, undef, undef, undef, undef, undef, undef, undef, undef], []⟩ : Act) V) := by
        intro r39 r40 r41 r42 r43 r44 r45 r46 r47 r48 r49 r50 r51 r52 r53 r54 r55 r56 r57 r58 r59 r60 r61 r62 r63 r64 r65 r66 r67 r68 r69 r70 r71 r72 V hQ
        refine h10 _ _ ?_
        clear h10 h72 K72 Q0 s0
        have Q0 := Lib.hid hQ
        clear hQ
        have c1 := HC1.out
        have c2 := HC2.out
        have s0 := And.intro Q0.out.sk.p.two (And.intro Q0.out.sk.q.two (And.intro Q0.out.sk.a.seven (And.intro Q0.out.sk.b.seven (And.intro Q0.out.x.two Q0.out.y.two))))
        go_wp2_with fail
        have Q1 := Lib.hid Q0.out.drew
        have e0 := And.intro Q1.out.sk.p.two (And.intro Q1.out.sk.a.seven Q1.out.x.two)
        clear s0
        cases R1 <;> cases X1
        all_goals (
          simp only [Bool.not_true, Bool.not_false] at c1 c2
          go_region_held3 (fun w' => (w'.cell? ⟨w.heap.size, 0, none⟩ = some (.slice A n1 c) ∧ w'.cell? ⟨w.heap.size, 1, none⟩ = some (.slice B n2 c')) ∧ (w'.cell? ⟨w.heap.size + 1 + 1, 0, none⟩ = some (.int .i64 ek) ∧ w'.cell? ⟨w.heap.size + 1 + 1, 1, none⟩ = some (.int .i64 en) ∧ w'.cell? ⟨w.heap.size + 1 + 1, 2, none⟩ = some (.string xs) ∧ w'.cell? ⟨w.heap.size + 1 + 1, 3, none⟩ = some (.int .i64 eo) ∧ w'.cell? ⟨w.heap.size + 1 + 1, 4, none⟩ = some (.slice E m1 k1) ∧ w'.cell? ⟨w.heap.size + 1 + 1, 5, none⟩ = some (.int .i64 el) ∧ w'.cell? ⟨w.heap.size + 1 + 1, 6, none⟩ = some (.int .i64 ec)) ∧ (w'.cell? ⟨g9, 0, none⟩ = some (.slice none 0 0) ∧ w'.cell? ⟨g9, 1, none⟩ = some (.slice (some ⟨u2, 0, none⟩) 1 1))) (first | with_reducible exact e0 | with_reducible exact e1 | with_reducible exact e2 | with_reducible exact e3 | with_reducible exact e4 | with_reducible exact e5)
            (first
            | (go_at_call 7
               with_reducible refine (p1.out _ Q1.out.sk.bel).mono ?_
               rintro e9 V21 ⟨rfl, hb⟩
               have Q2 := Lib.hid (Q1.out.step hb)
               have e1 := And.intro Q2.out.sk.p.two (And.intro Q2.out.sk.a.seven Q2.out.x.two)
               clear hb)
            | (go_at_call 6
               with_reducible refine (r1.out _ Q2.out.sk.bel).mono ?_
               rintro e9 V22 ⟨rfl, hb⟩
               have Q3 := Lib.hid (Q2.out.step hb)
               have e2 := And.intro Q3.out.sk.p.two (And.intro Q3.out.sk.a.seven Q3.out.x.two)
               clear hb)
            | (go_at_call 9
               with_reducible refine (q1.out _ Q3.out.sk.bel).mono ?_
               rintro e9 V23 ⟨rfl, hb⟩
               have Q4 := Lib.hid (Q3.out.step hb)
               have e3 := And.intro Q4.out.sk.p.two (And.intro Q4.out.sk.a.seven Q4.out.x.two)
               clear hb)
            | (go_at_call 6
               with_reducible refine (r3.out _ _ Q4.out.sk.bel Q4.out.sx).mono ?_
               rintro e9 V24 ⟨rfl, hb⟩
               have Q5 := Lib.hid (Q4.out.step hb)
               have e4 := And.intro Q5.out.sk.p.two (And.intro Q5.out.sk.a.seven Q5.out.x.two)
               clear hb)
            | (go_at_call 5
               with_reducible refine (Wk.out _ Q5.out.sk.bel).mono ?_
               rintro e9 V25 ⟨rfl, hb⟩
               have Q6 := Lib.hid (Q5.out.step hb)
               have e5 := And.intro Q6.out.sk.p.two (And.intro Q6.out.sk.a.seven Q6.out.x.two)
               clear hb))
          go_wp2_with fail
          go_ret
          exact ⟨rfl, Q6.out.sk.bel⟩)
      clear h10
      have Q1 := Lib.hid Q0.out.drew
      clear s0
      cases X1 with
      | false =>
        refine wp_region_noPanic ?_
        refine wp_region_held_drew (S := fun w' => (w'.cell? ⟨w.heap.size + 1 + 1, 0, none⟩ = some (.int .i64 ek) ∧ w'.cell? ⟨w.heap.size + 1 + 1, 1, none⟩ = some (.int .i64 en) ∧ w'.cell? ⟨w.heap.size + 1 + 1, 2, none⟩ = some (.string xs) ∧ w'.cell? ⟨w.heap.size + 1 + 1, 3, none⟩ = some (.int .i64 eo) ∧ w'.cell? ⟨w.heap.size + 1 + 1, 4, none⟩ = some (.slice E m1 k1) ∧ w'.cell? ⟨w.heap.size + 1 + 1, 5, none⟩ = some (.int .i64 el) ∧ w'.cell? ⟨w.heap.size + 1 + 1, 6, none⟩ = some (.int .i64 ec)) ∧ (w'.cell? ⟨w.heap.size + 1 + 1 + 1, 0, none⟩ = some (.int .i64 fk) ∧ w'.cell? ⟨w.heap.size + 1 + 1 + 1, 1, none⟩ = some (.int .i64 fn) ∧ w'.cell? ⟨w.heap.size + 1 + 1 + 1, 2, none⟩ = some (.string ys) ∧ w'.cell? ⟨w.heap.size + 1 + 1 + 1, 3, none⟩ = some (.int .i64 fo) ∧ w'.cell? ⟨w.heap.size + 1 + 1 + 1, 4, none⟩ = some (.slice F m2 k2) ∧ w'.cell? ⟨w.heap.size + 1 + 1 + 1, 5, none⟩ = some (.int .i64 fl) ∧ w'.cell? ⟨w.heap.size + 1 + 1 + 1, 6, none⟩ = some (.int .i64 fc)) ∧ (w'.cell? ⟨g9, 0, none⟩ = some (.slice none 0 0) ∧ w'.cell? ⟨g9, 1, none⟩ = some (.slice (some ⟨u2, 0, none⟩) 1 1)) ∧ (w'.cell? ⟨g10, 0, none⟩ = some (.slice none 0 0) ∧ w'.cell? ⟨g10, 1, none⟩ = some (.slice (some ⟨v2, 0, none⟩) 1 1))) (by kernel_rfl) (And.intro Q1.out.sk.a.seven (And.intro Q1.out.sk.b.seven (And.intro Q1.out.x.two Q1.out.y.two))) (fun hHeld => ?_)
        refine wpAnyH_take (i := 0) (oi := { dst := some 56, op := Go.Op.load 25 (Go.Operand.tmp 9), type := 25, pos := "law.go:63", after := #[], guard := none }) (v := ?_) rfl (by kernel_rfl) (by kernel_rfl) (by kernel_rfl) (fun _ _ _ h => h) (Or.inl ⟨by rfl, ?_⟩) hHeld ?_
        rotate_left 1
        · (intro w hSw; (try dsimp only at hSw); go_simp; (try with_reducible rfl))
        simp only [Act.put, List.setIfInBounds_toArray, List.set_cons_succ, List.set_cons_zero]
        refine wpAnyH_ready (rs := [1]) (by kernel_rfl) (by simp) ?_
        refine AllReadyH.cons (o := { dst := some 57, op := Go.Op.call { callee := Go.Callee.value (Go.Operand.func 6), args := #[Go.Operand.tmp 56], argTypes := #[25] }, type := 4, pos := "law.go:63", after := #[{ on := 0, ground := Go.Ground.data }], guard := none }) rfl (fun K hK => ?_) AllReadyH.nil
        go_simp
        refine (r3.out _ _ Q1.out.sk.bel Q1.out.sx).mono ?_
        rintro e V21 ⟨rfl, hb⟩
        have Q2 := Lib.hid (Q1.out.step hb)
        clear hb
        refine hK.out _ _ (And.intro Q2.out.sk.a.seven (And.intro Q2.out.sk.b.seven (And.intro Q2.out.x.two Q2.out.y.two))) (fun hHeld => ?_)
        clear hK K
        refine wpAnyH_take (i := 2) (oi := { dst := some 58, op := Go.Op.move (Go.Operand.tmp 57), type := 4, pos := "law.go:63", after := #[{ on := 1, ground := Go.Ground.data }, { on := 1, ground := Go.Ground.chain }], guard := none }) (v := ?_) rfl (by kernel_rfl) (by kernel_rfl) (by kernel_rfl) (fun _ _ _ h => h) (Or.inl ⟨by rfl, ?_⟩) hHeld ?_
        rotate_left 1
        · (intro w hSw; (try dsimp only at hSw); go_simp; (try with_reducible rfl))
        simp only [Act.put, List.setIfInBounds_toArray, List.set_cons_succ, List.set_cons_zero]
        refine wpAnyH_take (i := 3) (oi := { dst := some 59, op := Go.Op.load 25 (Go.Operand.tmp 10), type := 25, pos := "law.go:63", after := #[{ on := 2, ground := Go.Ground.guard }], guard := some (2, true) }) (v := undef) rfl (by kernel_rfl) (by kernel_rfl) (by kernel_rfl) (fun _ _ _ h => h) (Or.inr ⟨by rfl, rfl⟩) hHeld ?_
        simp only [Act.put, List.setIfInBounds_toArray, List.set_cons_succ, List.set_cons_zero]
        refine wpAnyH_take (i := 4) (oi := { dst := some 60, op := Go.Op.call { callee := Go.Callee.value (Go.Operand.func 6), args := #[Go.Operand.tmp 59], argTypes := #[25] }, type := 4, pos := "law.go:63", after := #[{ on := 3, ground := Go.Ground.data }, { on := 2, ground := Go.Ground.chain }, { on := 2, ground := Go.Ground.guard }], guard := some (2, true) }) (v := undef) rfl (by kernel_rfl) (by kernel_rfl) (by kernel_rfl) (fun _ _ _ h => h) (Or.inr ⟨by rfl, rfl⟩) hHeld ?_
        simp only [Act.put, List.setIfInBounds_toArray, List.set_cons_succ, List.set_cons_zero]
        refine wpAnyH_take (i := 5) (oi := { dst := some 61, op := Go.Op.pick (Go.Operand.tmp 58) (Go.Operand.tmp 60) (Go.Operand.const (Go.Value.bool false)), type := 4, pos := "law.go:63", after := #[{ on := 2, ground := Go.Ground.data }, { on := 4, ground := Go.Ground.data }], guard := none }) (v := ?_) rfl (by kernel_rfl) (by kernel_rfl) (by kernel_rfl) (fun _ _ _ h => h) (Or.inl ⟨by rfl, ?_⟩) hHeld ?_
        rotate_left 1
        · (intro w hSw; (try dsimp only at hSw); go_simp; (try with_reducible rfl))
        simp only [Act.put, List.setIfInBounds_toArray, List.set_cons_succ, List.set_cons_zero]
        refine wpAnyH_take (i := 6) (oi := { dst := some 62, op := Go.Op.move (Go.Operand.tmp 61), type := 4, pos := "law.go:63", after := #[{ on := 5, ground := Go.Ground.data }, { on := 4, ground := Go.Ground.chain }], guard := none }) (v := ?_) rfl (by kernel_rfl) (by kernel_rfl) (by kernel_rfl) (fun _ _ _ h => h) (Or.inl ⟨by rfl, ?_⟩) hHeld ?_
        rotate_left 1
        · (intro w hSw; (try dsimp only at hSw); go_simp; (try with_reducible rfl))
        simp only [Act.put, List.setIfInBounds_toArray, List.set_cons_succ, List.set_cons_zero]
        refine wpAnyH_take (i := 7) (oi := { dst := some 63, op := Go.Op.load 32 (Go.Operand.tmp 6), type := 32, pos := "law.go:63", after := #[{ on := 6, ground := Go.Ground.guard }], guard := some (6, true) }) (v := undef) rfl (by kernel_rfl) (by kernel_rfl) (by kernel_rfl) (fun _ _ _ h => h) (Or.inr ⟨by rfl, rfl⟩) hHeld ?_
        simp only [Act.put, List.setIfInBounds_toArray, List.set_cons_succ, List.set_cons_zero]
        refine wpAnyH_take (i := 8) (oi := { dst := some 64, op := Go.Op.call { callee := Go.Callee.value (Go.Operand.func 9), args := #[Go.Operand.tmp 63], argTypes := #[32] }, type := 9, pos := "law.go:63", after := #[{ on := 7, ground := Go.Ground.data }, { on := 6, ground := Go.Ground.chain }, { on := 6, ground := Go.Ground.guard }], guard := some (6, true) }) (v := undef) rfl (by kernel_rfl) (by kernel_rfl) (by kernel_rfl) (fun _ _ _ h => h) (Or.inr ⟨by rfl, rfl⟩) hHeld ?_
        simp only [Act.put, List.setIfInBounds_toArray, List.set_cons_succ, List.set_cons_zero]
        refine wpAnyH_take (i := 9) (oi := { dst := some 65, op := Go.Op.load 32 (Go.Operand.tmp 7), type := 32, pos := "law.go:63", after := #[{ on := 6, ground := Go.Ground.guard }], guard := some (6, true) }) (v := undef) rfl (by kernel_rfl) (by kernel_rfl) (by kernel_rfl) (fun _ _ _ h => h) (Or.inr ⟨by rfl, rfl⟩) hHeld ?_
        simp only [Act.put, List.setIfInBounds_toArray, List.set_cons_succ, List.set_cons_zero]
        refine wpAnyH_take (i := 10) (oi := { dst := some 66, op := Go.Op.call { callee := Go.Callee.value (Go.Operand.func 9), args := #[Go.Operand.tmp 65], argTypes := #[32] }, type := 9, pos := "law.go:63", after := #[{ on := 9, ground := Go.Ground.data }, { on := 8, ground := Go.Ground.chain }, { on := 6, ground := Go.Ground.guard }], guard := some (6, true) }) (v := undef) rfl (by kernel_rfl) (by kernel_rfl) (by kernel_rfl) (fun _ _ _ h => h) (Or.inr ⟨by rfl, rfl⟩) hHeld ?_
        simp only [Act.put, List.setIfInBounds_toArray, List.set_cons_succ, List.set_cons_zero]
        refine wpAnyH_take (i := 11) (oi := { dst := some 67, op := Go.Op.binOp Go.BinOp.eql 9 (Go.Operand.tmp 64) (Go.Operand.tmp 66) 9, type := 4, pos := "law.go:63", after := #[{ on := 8, ground := Go.Ground.data }, { on := 10, ground := Go.Ground.data }, { on := 6, ground := Go.Ground.guard }], guard := some (6, true) }) (v := undef) rfl (by kernel_rfl) (by kernel_rfl) (by kernel_rfl) (fun _ _ _ h => h) (Or.inr ⟨by rfl, rfl⟩) hHeld ?_
        simp only [Act.put, List.setIfInBounds_toArray, List.set_cons_succ, List.set_cons_zero]
        refine wpAnyH_take (i := 12) (oi := { dst := some 68, op := Go.Op.load 32 (Go.Operand.tmp 6), type := 32, pos := "law.go:63", after := #[{ on := 6, ground := Go.Ground.guard }], guard := some (6, true) }) (v := undef) rfl (by kernel_rfl) (by kernel_rfl) (by kernel_rfl) (fun _ _ _ h => h) (Or.inr ⟨by rfl, rfl⟩) hHeld ?_
        simp only [Act.put, List.setIfInBounds_toArray, List.set_cons_succ, List.set_cons_zero]
        refine wpAnyH_take (i := 13) (oi := { dst := some 69, op := Go.Op.load 32 (Go.Operand.tmp 7), type := 32, pos := "law.go:63", after := #[{ on := 6, ground := Go.Ground.guard }], guard := some (6, true) }) (v := undef) rfl (by kernel_rfl) (by kernel_rfl) (by kernel_rfl) (fun _ _ _ h => h) (Or.inr ⟨by rfl, rfl⟩) hHeld ?_
        simp only [Act.put, List.setIfInBounds_toArray, List.set_cons_succ, List.set_cons_zero]
        refine wpAnyH_take (i := 14) (oi := { dst := some 70, op := Go.Op.call { callee := Go.Callee.value (Go.Operand.func 10), args := #[Go.Operand.tmp 68, Go.Operand.tmp 69], argTypes := #[32, 32] }, type := 4, pos := "law.go:63", after := #[{ on := 12, ground := Go.Ground.data }, { on := 13, ground := Go.Ground.data }, { on := 10, ground := Go.Ground.chain }, { on := 6, ground := Go.Ground.guard }], guard := some (6, true) }) (v := undef) rfl (by kernel_rfl) (by kernel_rfl) (by kernel_rfl) (fun _ _ _ h => h) (Or.inr ⟨by rfl, rfl⟩) hHeld ?_
        simp only [Act.put, List.setIfInBounds_toArray, List.set_cons_succ, List.set_cons_zero]
        refine wpAnyH_take (i := 15) (oi := { dst := some 71, op := Go.Op.binOp Go.BinOp.neq 4 (Go.Operand.tmp 67) (Go.Operand.tmp 70) 4, type := 4, pos := "law.go:63", after := #[{ on := 11, ground := Go.Ground.data }, { on := 14, ground := Go.Ground.data }, { on := 6, ground := Go.Ground.guard }], guard := some (6, true) }) (v := undef) rfl (by kernel_rfl) (by kernel_rfl) (by kernel_rfl) (fun _ _ _ h => h) (Or.inr ⟨by rfl, rfl⟩) hHeld ?_
        simp only [Act.put, List.setIfInBounds_toArray, List.set_cons_succ, List.set_cons_zero]
        refine wpAnyH_take (i := 16) (oi := { dst := some 72, op := Go.Op.pick (Go.Operand.tmp 62) (Go.Operand.tmp 71) (Go.Operand.const (Go.Value.bool false)), type := 4, pos := "law.go:63", after := #[{ on := 6, ground := Go.Ground.data }, { on := 15, ground := Go.Ground.data }], guard := none }) (v := ?_) rfl (by kernel_rfl) (by kernel_rfl) (by kernel_rfl) (fun _ _ _ h => h) (Or.inl ⟨by rfl, ?_⟩) hHeld ?_
        rotate_left 1
        · (intro w hSw; (try dsimp only at hSw); go_simp; (try with_reducible rfl))
        simp only [Act.put, List.setIfInBounds_toArray, List.set_cons_succ, List.set_cons_zero]
        refine wpAnyH_done (by kernel_rfl) ?_ _
        refine NoPanic.normal ?_
        go_wp2_with fail
        exact H10.out _ _ _ _ _ _ _ _ _ _ _ _ _ _ _ _ _ _ _ _ _ _ _ _ _ _ _ _ _ _ _ _ _ _ _ Q2.out
      | true =>
      cases X2 with
      | false =>
        refine wp_region_noPanic ?_
        refine wp_region_held_drew (S := fun w' => (w'.cell? ⟨w.heap.size + 1 + 1, 0, none⟩ = some (.int .i64 ek) ∧ w'.cell? ⟨w.heap.size + 1 + 1, 1, none⟩ = some (.int .i64 en) ∧ w'.cell? ⟨w.heap.size + 1 + 1, 2, none⟩ = some (.string xs) ∧ w'.cell? ⟨w.heap.size + 1 + 1, 3, none⟩ = some (.int .i64 eo) ∧ w'.cell? ⟨w.heap.size + 1 + 1, 4, none⟩ = some (.slice E m1 k1) ∧ w'.cell? ⟨w.heap.size + 1 + 1, 5, none⟩ = some (.int .i64 el) ∧ w'.cell? ⟨w.heap.size + 1 + 1, 6, none⟩ = some (.int .i64 ec)) ∧ (w'.cell? ⟨w.heap.size + 1 + 1 + 1, 0, none⟩ = some (.int .i64 fk) ∧ w'.cell? ⟨w.heap.size + 1 + 1 + 1, 1, none⟩ = some (.int .i64 fn) ∧ w'.cell? ⟨w.heap.size + 1 + 1 + 1, 2, none⟩ = some (.string ys) ∧ w'.cell? ⟨w.heap.size + 1 + 1 + 1, 3, none⟩ = some (.int .i64 fo) ∧ w'.cell? ⟨w.heap.size + 1 + 1 + 1, 4, none⟩ = some (.slice F m2 k2) ∧ w'.cell? ⟨w.heap.size + 1 + 1 + 1, 5, none⟩ = some (.int .i64 fl) ∧ w'.cell? ⟨w.heap.size + 1 + 1 + 1, 6, none⟩ = some (.int .i64 fc)) ∧ (w'.cell? ⟨g9, 0, none⟩ = some (.slice none 0 0) ∧ w'.cell? ⟨g9, 1, none⟩ = some (.slice (some ⟨u2, 0, none⟩) 1 1)) ∧ (w'.cell? ⟨g10, 0, none⟩ = some (.slice none 0 0) ∧ w'.cell? ⟨g10, 1, none⟩ = some (.slice (some ⟨v2, 0, none⟩) 1 1))) (by kernel_rfl) (And.intro Q1.out.sk.a.seven (And.intro Q1.out.sk.b.seven (And.intro Q1.out.x.two Q1.out.y.two))) (fun hHeld => ?_)
        refine wpAnyH_take (i := 0) (oi := { dst := some 56, op := Go.Op.load 25 (Go.Operand.tmp 9), type := 25, pos := "law.go:63", after := #[], guard := none }) (v := ?_) rfl (by kernel_rfl) (by kernel_rfl) (by kernel_rfl) (fun _ _ _ h => h) (Or.inl ⟨by rfl, ?_⟩) hHeld ?_
        rotate_left 1
        · (intro w hSw; (try dsimp only at hSw); go_simp; (try with_reducible rfl))
        simp only [Act.put, List.setIfInBounds_toArray, List.set_cons_succ, List.set_cons_zero]
        refine wpAnyH_ready (rs := [1]) (by kernel_rfl) (by simp) ?_
        refine AllReadyH.cons (o := { dst := some 57, op := Go.Op.call { callee := Go.Callee.value (Go.Operand.func 6), args := #[Go.Operand.tmp 56], argTypes := #[25] }, type := 4, pos := "law.go:63", after := #[{ on := 0, ground := Go.Ground.data }], guard := none }) rfl (fun K hK => ?_) AllReadyH.nil
        go_simp
        refine (r3.out _ _ Q1.out.sk.bel Q1.out.sx).mono ?_
        rintro e V21 ⟨rfl, hb⟩
        have Q2 := Lib.hid (Q1.out.step hb)
        clear hb
        refine hK.out _ _ (And.intro Q2.out.sk.a.seven (And.intro Q2.out.sk.b.seven (And.intro Q2.out.x.two Q2.out.y.two))) (fun hHeld => ?_)
        clear hK K
        refine wpAnyH_take (i := 2) (oi := { dst := some 58, op := Go.Op.move (Go.Operand.tmp 57), type := 4, pos := "law.go:63", after := #[{ on := 1, ground := Go.Ground.data }, { on := 1, ground := Go.Ground.chain }], guard := none }) (v := ?_) rfl (by kernel_rfl) (by kernel_rfl) (by kernel_rfl) (fun _ _ _ h => h) (Or.inl ⟨by rfl, ?_⟩) hHeld ?_
        rotate_left 1
        · (intro w hSw; (try dsimp only at hSw); go_simp; (try with_reducible rfl))
        simp only [Act.put, List.setIfInBounds_toArray, List.set_cons_succ, List.set_cons_zero]
        refine wpAnyH_take (i := 3) (oi := { dst := some 59, op := Go.Op.load 25 (Go.Operand.tmp 10), type := 25, pos := "law.go:63", after := #[{ on := 2, ground := Go.Ground.guard }], guard := some (2, true) }) (v := ?_) rfl (by kernel_rfl) (by kernel_rfl) (by kernel_rfl) (fun _ _ _ h => h) (Or.inl ⟨by rfl, ?_⟩) hHeld ?_
        rotate_left 1
        · (intro w hSw; (try dsimp only at hSw); go_simp; (try with_reducible rfl))
        simp only [Act.put, List.setIfInBounds_toArray, List.set_cons_succ, List.set_cons_zero]
        refine wpAnyH_ready (rs := [4]) (by kernel_rfl) (by simp) ?_
        refine AllReadyH.cons (o := { dst := some 60, op := Go.Op.call { callee := Go.Callee.value (Go.Operand.func 6), args := #[Go.Operand.tmp 59], argTypes := #[25] }, type := 4, pos := "law.go:63", after := #[{ on := 3, ground := Go.Ground.data }, { on := 2, ground := Go.Ground.chain }, { on := 2, ground := Go.Ground.guard }], guard := some (2, true) }) rfl (fun K hK => ?_) AllReadyH.nil
        go_simp
        refine (r4.out _ _ Q2.out.sk.bel Q2.out.sy).mono ?_
        rintro e V22 ⟨rfl, hb⟩
        have Q3 := Lib.hid (Q2.out.step hb)
        clear hb
        refine hK.out _ _ (And.intro Q3.out.sk.a.seven (And.intro Q3.out.sk.b.seven (And.intro Q3.out.x.two Q3.out.y.two))) (fun hHeld => ?_)
        clear hK K
        refine wpAnyH_take (i := 5) (oi := { dst := some 61, op := Go.Op.pick (Go.Operand.tmp 58) (Go.Operand.tmp 60) (Go.Operand.const (Go.Value.bool false)), type := 4, pos := "law.go:63", after := #[{ on := 2, ground := Go.Ground.data }, { on := 4, ground := Go.Ground.data }], guard := none }) (v := ?_) rfl (by kernel_rfl) (by kernel_rfl) (by kernel_rfl) (fun _ _ _ h => h) (Or.inl ⟨by rfl, ?_⟩) hHeld ?_
        rotate_left 1
        · (intro w hSw; (try dsimp only at hSw); go_simp; (try with_reducible rfl))
        simp only [Act.put, List.setIfInBounds_toArray, List.set_cons_succ, List.set_cons_zero]
        refine wpAnyH_take (i := 6) (oi := { dst := some 62, op := Go.Op.move (Go.Operand.tmp 61), type := 4, pos := "law.go:63", after := #[{ on := 5, ground := Go.Ground.data }, { on := 4, ground := Go.Ground.chain }], guard := none }) (v := ?_) rfl (by kernel_rfl) (by kernel_rfl) (by kernel_rfl) (fun _ _ _ h => h) (Or.inl ⟨by rfl, ?_⟩) hHeld ?_
        rotate_left 1
        · (intro w hSw; (try dsimp only at hSw); go_simp; (try with_reducible rfl))
        simp only [Act.put, List.setIfInBounds_toArray, List.set_cons_succ, List.set_cons_zero]
        refine wpAnyH_take (i := 7) (oi := { dst := some 63, op := Go.Op.load 32 (Go.Operand.tmp 6), type := 32, pos := "law.go:63", after := #[{ on := 6, ground := Go.Ground.guard }], guard := some (6, true) }) (v := undef) rfl (by kernel_rfl) (by kernel_rfl) (by kernel_rfl) (fun _ _ _ h => h) (Or.inr ⟨by rfl, rfl⟩) hHeld ?_
        simp only [Act.put, List.setIfInBounds_toArray, List.set_cons_succ, List.set_cons_zero]
        refine wpAnyH_take (i := 8) (oi := { dst := some 64, op := Go.Op.call { callee := Go.Callee.value (Go.Operand.func 9), args := #[Go.Operand.tmp 63], argTypes := #[32] }, type := 9, pos := "law.go:63", after := #[{ on := 7, ground := Go.Ground.data }, { on := 6, ground := Go.Ground.chain }, { on := 6, ground := Go.Ground.guard }], guard := some (6, true) }) (v := undef) rfl (by kernel_rfl) (by kernel_rfl) (by kernel_rfl) (fun _ _ _ h => h) (Or.inr ⟨by rfl, rfl⟩) hHeld ?_
        simp only [Act.put, List.setIfInBounds_toArray, List.set_cons_succ, List.set_cons_zero]
        refine wpAnyH_take (i := 9) (oi := { dst := some 65, op := Go.Op.load 32 (Go.Operand.tmp 7), type := 32, pos := "law.go:63", after := #[{ on := 6, ground := Go.Ground.guard }], guard := some (6, true) }) (v := undef) rfl (by kernel_rfl) (by kernel_rfl) (by kernel_rfl) (fun _ _ _ h => h) (Or.inr ⟨by rfl, rfl⟩) hHeld ?_
        simp only [Act.put, List.setIfInBounds_toArray, List.set_cons_succ, List.set_cons_zero]
        refine wpAnyH_take (i := 10) (oi := { dst := some 66, op := Go.Op.call { callee := Go.Callee.value (Go.Operand.func 9), args := #[Go.Operand.tmp 65], argTypes := #[32] }, type := 9, pos := "law.go:63", after := #[{ on := 9, ground := Go.Ground.data }, { on := 8, ground := Go.Ground.chain }, { on := 6, ground := Go.Ground.guard }], guard := some (6, true) }) (v := undef) rfl (by kernel_rfl) (by kernel_rfl) (by kernel_rfl) (fun _ _ _ h => h) (Or.inr ⟨by rfl, rfl⟩) hHeld ?_
        simp only [Act.put, List.setIfInBounds_toArray, List.set_cons_succ, List.set_cons_zero]
        refine wpAnyH_take (i := 11) (oi := { dst := some 67, op := Go.Op.binOp Go.BinOp.eql 9 (Go.Operand.tmp 64) (Go.Operand.tmp 66) 9, type := 4, pos := "law.go:63", after := #[{ on := 8, ground := Go.Ground.data }, { on := 10, ground := Go.Ground.data }, { on := 6, ground := Go.Ground.guard }], guard := some (6, true) }) (v := undef) rfl (by kernel_rfl) (by kernel_rfl) (by kernel_rfl) (fun _ _ _ h => h) (Or.inr ⟨by rfl, rfl⟩) hHeld ?_
        simp only [Act.put, List.setIfInBounds_toArray, List.set_cons_succ, List.set_cons_zero]
        refine wpAnyH_take (i := 12) (oi := { dst := some 68, op := Go.Op.load 32 (Go.Operand.tmp 6), type := 32, pos := "law.go:63", after := #[{ on := 6, ground := Go.Ground.guard }], guard := some (6, true) }) (v := undef) rfl (by kernel_rfl) (by kernel_rfl) (by kernel_rfl) (fun _ _ _ h => h) (Or.inr ⟨by rfl, rfl⟩) hHeld ?_
        simp only [Act.put, List.setIfInBounds_toArray, List.set_cons_succ, List.set_cons_zero]
        refine wpAnyH_take (i := 13) (oi := { dst := some 69, op := Go.Op.load 32 (Go.Operand.tmp 7), type := 32, pos := "law.go:63", after := #[{ on := 6, ground := Go.Ground.guard }], guard := some (6, true) }) (v := undef) rfl (by kernel_rfl) (by kernel_rfl) (by kernel_rfl) (fun _ _ _ h => h) (Or.inr ⟨by rfl, rfl⟩) hHeld ?_
        simp only [Act.put, List.setIfInBounds_toArray, List.set_cons_succ, List.set_cons_zero]
        refine wpAnyH_take (i := 14) (oi := { dst := some 70, op := Go.Op.call { callee := Go.Callee.value (Go.Operand.func 10), args := #[Go.Operand.tmp 68, Go.Operand.tmp 69], argTypes := #[32, 32] }, type := 4, pos := "law.go:63", after := #[{ on := 12, ground := Go.Ground.data }, { on := 13, ground := Go.Ground.data }, { on := 10, ground := Go.Ground.chain }, { on := 6, ground := Go.Ground.guard }], guard := some (6, true) }) (v := undef) rfl (by kernel_rfl) (by kernel_rfl) (by kernel_rfl) (fun _ _ _ h => h) (Or.inr ⟨by rfl, rfl⟩) hHeld ?_
        simp only [Act.put, List.setIfInBounds_toArray, List.set_cons_succ, List.set_cons_zero]
        refine wpAnyH_take (i := 15) (oi := { dst := some 71, op := Go.Op.binOp Go.BinOp.neq 4 (Go.Operand.tmp 67) (Go.Operand.tmp 70) 4, type := 4, pos := "law.go:63", after := #[{ on := 11, ground := Go.Ground.data }, { on := 14, ground := Go.Ground.data }, { on := 6, ground := Go.Ground.guard }], guard := some (6, true) }) (v := undef) rfl (by kernel_rfl) (by kernel_rfl) (by kernel_rfl) (fun _ _ _ h => h) (Or.inr ⟨by rfl, rfl⟩) hHeld ?_
        simp only [Act.put, List.setIfInBounds_toArray, List.set_cons_succ, List.set_cons_zero]
        refine wpAnyH_take (i := 16) (oi := { dst := some 72, op := Go.Op.pick (Go.Operand.tmp 62) (Go.Operand.tmp 71) (Go.Operand.const (Go.Value.bool false)), type := 4, pos := "law.go:63", after := #[{ on := 6, ground := Go.Ground.data }, { on := 15, ground := Go.Ground.data }], guard := none }) (v := ?_) rfl (by kernel_rfl) (by kernel_rfl) (by kernel_rfl) (fun _ _ _ h => h) (Or.inl ⟨by rfl, ?_⟩) hHeld ?_
        rotate_left 1
        · (intro w hSw; (try dsimp only at hSw); go_simp; (try with_reducible rfl))
        simp only [Act.put, List.setIfInBounds_toArray, List.set_cons_succ, List.set_cons_zero]
        refine wpAnyH_done (by kernel_rfl) ?_ _
        refine NoPanic.normal ?_
        go_wp2_with fail
        exact H10.out _ _ _ _ _ _ _ _ _ _ _ _ _ _ _ _ _ _ _ _ _ _ _ _ _ _ _ _ _ _ _ _ _ _ _ Q3.out
      | true =>
        have c4 := HC4.out rfl rfl
        refine wp_region_noPanic ?_
        refine wp_region_held_drew (S := fun w' => (w'.cell? ⟨w.heap.size + 1 + 1, 0, none⟩ = some (.int .i64 ek) ∧ w'.cell? ⟨w.heap.size + 1 + 1, 1, none⟩ = some (.int .i64 en) ∧ w'.cell? ⟨w.heap.size + 1 + 1, 2, none⟩ = some (.string xs) ∧ w'.cell? ⟨w.heap.size + 1 + 1, 3, none⟩ = some (.int .i64 eo) ∧ w'.cell? ⟨w.heap.size + 1 + 1, 4, none⟩ = some (.slice E m1 k1) ∧ w'.cell? ⟨w.heap.size + 1 + 1, 5, none⟩ = some (.int .i64 el) ∧ w'.cell? ⟨w.heap.size + 1 + 1, 6, none⟩ = some (.int .i64 ec)) ∧ (w'.cell? ⟨w.heap.size + 1 + 1 + 1, 0, none⟩ = some (.int .i64 fk) ∧ w'.cell? ⟨w.heap.size + 1 + 1 + 1, 1, none⟩ = some (.int .i64 fn) ∧ w'.cell? ⟨w.heap.size + 1 + 1 + 1, 2, none⟩ = some (.string ys) ∧ w'.cell? ⟨w.heap.size + 1 + 1 + 1, 3, none⟩ = some (.int .i64 fo) ∧ w'.cell? ⟨w.heap.size + 1 + 1 + 1, 4, none⟩ = some (.slice F m2 k2) ∧ w'.cell? ⟨w.heap.size + 1 + 1 + 1, 5, none⟩ = some (.int .i64 fl) ∧ w'.cell? ⟨w.heap.size + 1 + 1 + 1, 6, none⟩ = some (.int .i64 fc)) ∧ (w'.cell? ⟨g9, 0, none⟩ = some (.slice none 0 0) ∧ w'.cell? ⟨g9, 1, none⟩ = some (.slice (some ⟨u2, 0, none⟩) 1 1)) ∧ (w'.cell? ⟨g10, 0, none⟩ = some (.slice none 0 0) ∧ w'.cell? ⟨g10, 1, none⟩ = some (.slice (some ⟨v2, 0, none⟩) 1 1))) (by kernel_rfl) (And.intro Q1.out.sk.a.seven (And.intro Q1.out.sk.b.seven (And.intro Q1.out.x.two Q1.out.y.two))) (fun hHeld => ?_)
        refine wpAnyH_take (i := 0) (oi := { dst := some 56, op := Go.Op.load 25 (Go.Operand.tmp 9), type := 25, pos := "law.go:63", after := #[], guard := none }) (v := ?_) rfl (by kernel_rfl) (by kernel_rfl) (by kernel_rfl) (fun _ _ _ h => h) (Or.inl ⟨by rfl, ?_⟩) hHeld ?_
        rotate_left 1
        · (intro w hSw; (try dsimp only at hSw); go_simp; (try with_reducible rfl))
        simp only [Act.put, List.setIfInBounds_toArray, List.set_cons_succ, List.set_cons_zero]
        refine wpAnyH_ready (rs := [1]) (by kernel_rfl) (by simp) ?_
        refine AllReadyH.cons (o := { dst := some 57, op := Go.Op.call { callee := Go.Callee.value (Go.Operand.func 6), args := #[Go.Operand.tmp 56], argTypes := #[25] }, type := 4, pos := "law.go:63", after := #[{ on := 0, ground := Go.Ground.data }], guard := none }) rfl (fun K hK => ?_) AllReadyH.nil
        go_simp
        refine (r3.out _ _ Q1.out.sk.bel Q1.out.sx).mono ?_
        rintro e V21 ⟨rfl, hb⟩
        have Q2 := Lib.hid (Q1.out.step hb)
        clear hb
        refine hK.out _ _ (And.intro Q2.out.sk.a.seven (And.intro Q2.out.sk.b.seven (And.intro Q2.out.x.two Q2.out.y.two))) (fun hHeld => ?_)
        clear hK K
        refine wpAnyH_take (i := 2) (oi := { dst := some 58, op := Go.Op.move (Go.Operand.tmp 57), type := 4, pos := "law.go:63", after := #[{ on := 1, ground := Go.Ground.data }, { on := 1, ground := Go.Ground.chain }], guard := none }) (v := ?_) rfl (by kernel_rfl) (by kernel_rfl) (by kernel_rfl) (fun _ _ _ h => h) (Or.inl ⟨by rfl, ?_⟩) hHeld ?_
        rotate_left 1
        · (intro w hSw; (try dsimp only at hSw); go_simp; (try with_reducible rfl))
        simp only [Act.put, List.setIfInBounds_toArray, List.set_cons_succ, List.set_cons_zero]
        refine wpAnyH_take (i := 3) (oi := { dst := some 59, op := Go.Op.load 25 (Go.Operand.tmp 10), type := 25, pos := "law.go:63", after := #[{ on := 2, ground := Go.Ground.guard }], guard := some (2, true) }) (v := ?_) rfl (by kernel_rfl) (by kernel_rfl) (by kernel_rfl) (fun _ _ _ h => h) (Or.inl ⟨by rfl, ?_⟩) hHeld ?_
        rotate_left 1
        · (intro w hSw; (try dsimp only at hSw); go_simp; (try with_reducible rfl))
        simp only [Act.put, List.setIfInBounds_toArray, List.set_cons_succ, List.set_cons_zero]
        refine wpAnyH_ready (rs := [4]) (by kernel_rfl) (by simp) ?_
        refine AllReadyH.cons (o := { dst := some 60, op := Go.Op.call { callee := Go.Callee.value (Go.Operand.func 6), args := #[Go.Operand.tmp 59], argTypes := #[25] }, type := 4, pos := "law.go:63", after := #[{ on := 3, ground := Go.Ground.data }, { on := 2, ground := Go.Ground.chain }, { on := 2, ground := Go.Ground.guard }], guard := some (2, true) }) rfl (fun K hK => ?_) AllReadyH.nil
        go_simp
        refine (r4.out _ _ Q2.out.sk.bel Q2.out.sy).mono ?_
        rintro e V22 ⟨rfl, hb⟩
        have Q3 := Lib.hid (Q2.out.step hb)
        clear hb
        refine hK.out _ _ (And.intro Q3.out.sk.a.seven (And.intro Q3.out.sk.b.seven (And.intro Q3.out.x.two Q3.out.y.two))) (fun hHeld => ?_)
        clear hK K
        refine wpAnyH_take (i := 5) (oi := { dst := some 61, op := Go.Op.pick (Go.Operand.tmp 58) (Go.Operand.tmp 60) (Go.Operand.const (Go.Value.bool false)), type := 4, pos := "law.go:63", after := #[{ on := 2, ground := Go.Ground.data }, { on := 4, ground := Go.Ground.data }], guard := none }) (v := ?_) rfl (by kernel_rfl) (by kernel_rfl) (by kernel_rfl) (fun _ _ _ h => h) (Or.inl ⟨by rfl, ?_⟩) hHeld ?_
        rotate_left 1
        · (intro w hSw; (try dsimp only at hSw); go_simp; (try with_reducible rfl))
        simp only [Act.put, List.setIfInBounds_toArray, List.set_cons_succ, List.set_cons_zero]
        refine wpAnyH_take (i := 6) (oi := { dst := some 62, op := Go.Op.move (Go.Operand.tmp 61), type := 4, pos := "law.go:63", after := #[{ on := 5, ground := Go.Ground.data }, { on := 4, ground := Go.Ground.chain }], guard := none }) (v := ?_) rfl (by kernel_rfl) (by kernel_rfl) (by kernel_rfl) (fun _ _ _ h => h) (Or.inl ⟨by rfl, ?_⟩) hHeld ?_
        rotate_left 1
        · (intro w hSw; (try dsimp only at hSw); go_simp; (try with_reducible rfl))
        simp only [Act.put, List.setIfInBounds_toArray, List.set_cons_succ, List.set_cons_zero]
        refine wpAnyH_take (i := 7) (oi := { dst := some 63, op := Go.Op.load 32 (Go.Operand.tmp 6), type := 32, pos := "law.go:63", after := #[{ on := 6, ground := Go.Ground.guard }], guard := some (6, true) }) (v := ?_) rfl (by kernel_rfl) (by kernel_rfl) (by kernel_rfl) (fun _ _ _ h => h) (Or.inl ⟨by rfl, ?_⟩) hHeld ?_
        rotate_left 1
        · (intro w hSw; (try dsimp only at hSw); go_simp; (try with_reducible rfl))
        simp only [Act.put, List.setIfInBounds_toArray, List.set_cons_succ, List.set_cons_zero]
        refine wpAnyH_take (i := 9) (oi := { dst := some 65, op := Go.Op.load 32 (Go.Operand.tmp 7), type := 32, pos := "law.go:63", after := #[{ on := 6, ground := Go.Ground.guard }], guard := some (6, true) }) (v := ?_) rfl (by kernel_rfl) (by kernel_rfl) (by kernel_rfl) (fun _ _ _ h => h) (Or.inl ⟨by rfl, ?_⟩) hHeld ?_
        rotate_left 1
        · (intro w hSw; (try dsimp only at hSw); go_simp; (try with_reducible rfl))
        simp only [Act.put, List.setIfInBounds_toArray, List.set_cons_succ, List.set_cons_zero]
        refine wpAnyH_take (i := 12) (oi := { dst := some 68, op := Go.Op.load 32 (Go.Operand.tmp 6), type := 32, pos := "law.go:63", after := #[{ on := 6, ground := Go.Ground.guard }], guard := some (6, true) }) (v := ?_) rfl (by kernel_rfl) (by kernel_rfl) (by kernel_rfl) (fun _ _ _ h => h) (Or.inl ⟨by rfl, ?_⟩) hHeld ?_
        rotate_left 1
        · (intro w hSw; (try dsimp only at hSw); go_simp; (try with_reducible rfl))
        simp only [Act.put, List.setIfInBounds_toArray, List.set_cons_succ, List.set_cons_zero]
        refine wpAnyH_take (i := 13) (oi := { dst := some 69, op := Go.Op.load 32 (Go.Operand.tmp 7), type := 32, pos := "law.go:63", after := #[{ on := 6, ground := Go.Ground.guard }], guard := some (6, true) }) (v := ?_) rfl (by kernel_rfl) (by kernel_rfl) (by kernel_rfl) (fun _ _ _ h => h) (Or.inl ⟨by rfl, ?_⟩) hHeld ?_
        rotate_left 1
        · (intro w hSw; (try dsimp only at hSw); go_simp; (try with_reducible rfl))
        simp only [Act.put, List.setIfInBounds_toArray, List.set_cons_succ, List.set_cons_zero]
        refine wpAnyH_ready (rs := [8]) (by kernel_rfl) (by simp) ?_
        refine AllReadyH.cons (o := { dst := some 64, op := Go.Op.call { callee := Go.Callee.value (Go.Operand.func 9), args := #[Go.Operand.tmp 63], argTypes := #[32] }, type := 9, pos := "law.go:63", after := #[{ on := 7, ground := Go.Ground.data }, { on := 6, ground := Go.Ground.chain }, { on := 6, ground := Go.Ground.guard }], guard := some (6, true) }) rfl (fun K hK => ?_) AllReadyH.nil
        go_simp
        refine (q1.out _ Q3.out.sk.bel).mono ?_
        rintro e V23 ⟨rfl, hb⟩
        have Q4 := Lib.hid (Q3.out.step hb)
        clear hb
        refine hK.out _ _ (And.intro Q4.out.sk.a.seven (And.intro Q4.out.sk.b.seven (And.intro Q4.out.x.two Q4.out.y.two))) (fun hHeld => ?_)
        clear hK K
        refine wpAnyH_ready (rs := [10]) (by kernel_rfl) (by simp) ?_
        refine AllReadyH.cons (o := { dst := some 66, op := Go.Op.call { callee := Go.Callee.value (Go.Operand.func 9), args := #[Go.Operand.tmp 65], argTypes := #[32] }, type := 9, pos := "law.go:63", after := #[{ on := 9, ground := Go.Ground.data }, { on := 8, ground := Go.Ground.chain }, { on := 6, ground := Go.Ground.guard }], guard := some (6, true) }) rfl (fun K hK => ?_) AllReadyH.nil
        go_simp
        refine (q2.out _ Q4.out.sk.bel).mono ?_
        rintro e V24 ⟨rfl, hb⟩
        have Q5 := Lib.hid (Q4.out.step hb)
        clear hb
        refine hK.out _ _ (And.intro Q5.out.sk.a.seven (And.intro Q5.out.sk.b.seven (And.intro Q5.out.x.two Q5.out.y.two))) (fun hHeld => ?_)
        clear hK K
        refine wpAnyH_take (i := 11) (oi := { dst := some 67, op := Go.Op.binOp Go.BinOp.eql 9 (Go.Operand.tmp 64) (Go.Operand.tmp 66) 9, type := 4, pos := "law.go:63", after := #[{ on := 8, ground := Go.Ground.data }, { on := 10, ground := Go.Ground.data }, { on := 6, ground := Go.Ground.guard }], guard := some (6, true) }) (v := ?_) rfl (by kernel_rfl) (by kernel_rfl) (by kernel_rfl) (fun _ _ _ h => h) (Or.inl ⟨by rfl, ?_⟩) hHeld ?_
        rotate_left 1
        · (intro w hSw; (try dsimp only at hSw); go_simp; (try with_reducible rfl))
        simp only [Act.put, List.setIfInBounds_toArray, List.set_cons_succ, List.set_cons_zero]
        refine wpAnyH_ready (rs := [14]) (by kernel_rfl) (by simp) ?_
        refine AllReadyH.cons (o := { dst := some 70, op := Go.Op.call { callee := Go.Callee.value (Go.Operand.func 10), args := #[Go.Operand.tmp 68, Go.Operand.tmp 69], argTypes := #[32, 32] }, type := 4, pos := "law.go:63", after := #[{ on := 12, ground := Go.Ground.data }, { on := 13, ground := Go.Ground.data }, { on := 10, ground := Go.Ground.chain }, { on := 6, ground := Go.Ground.guard }], guard := some (6, true) }) rfl (fun K hK => ?_) AllReadyH.nil
        go_simp
        refine (s2.out _ Q5.out.sk.bel).mono ?_
        rintro e V25 ⟨rfl, hb⟩
        have Q6 := Lib.hid (Q5.out.step hb)
        clear hb
        refine hK.out _ _ (And.intro Q6.out.sk.a.seven (And.intro Q6.out.sk.b.seven (And.intro Q6.out.x.two Q6.out.y.two))) (fun hHeld => ?_)
        clear hK K
        refine wpAnyH_take (i := 15) (oi := { dst := some 71, op := Go.Op.binOp Go.BinOp.neq 4 (Go.Operand.tmp 67) (Go.Operand.tmp 70) 4, type := 4, pos := "law.go:63", after := #[{ on := 11, ground := Go.Ground.data }, { on := 14, ground := Go.Ground.data }, { on := 6, ground := Go.Ground.guard }], guard := some (6, true) }) (v := ?_) rfl (by kernel_rfl) (by kernel_rfl) (by kernel_rfl) (fun _ _ _ h => h) (Or.inl ⟨by rfl, ?_⟩) hHeld ?_
        rotate_left 1
        · (intro w hSw; (try dsimp only at hSw); go_simp; (try with_reducible rfl))
        simp only [Act.put, List.setIfInBounds_toArray, List.set_cons_succ, List.set_cons_zero]
        refine wpAnyH_take (i := 16) (oi := { dst := some 72, op := Go.Op.pick (Go.Operand.tmp 62) (Go.Operand.tmp 71) (Go.Operand.const (Go.Value.bool false)), type := 4, pos := "law.go:63", after := #[{ on := 6, ground := Go.Ground.data }, { on := 15, ground := Go.Ground.data }], guard := none }) (v := ?_) rfl (by kernel_rfl) (by kernel_rfl) (by kernel_rfl) (fun _ _ _ h => h) (Or.inl ⟨by rfl, ?_⟩) hHeld ?_
        rotate_left 1
        · (intro w hSw; (try dsimp only at hSw); go_simp; (try with_reducible rfl))
        simp only [Act.put, List.setIfInBounds_toArray, List.set_cons_succ, List.set_cons_zero]
        refine wpAnyH_done (by kernel_rfl) ?_ _
        refine NoPanic.normal ?_
        go_wp2_with fail
        exact H10.out _ _ _ _ _ _ _ _ _ _ _ _ _ _ _ _ _ _ _ _ _ _ _ _ _ _ _ _ _ _ _ _ _ _ _ Q6.out
    clear h8
    have Q3 := Lib.hid Q2.out.drew
    clear s0
    cases R1 with
    | false =>
      refine wp_region_noPanic ?_
      refine wp_region_held_drew (S := fun w' => (w'.cell? ⟨w.heap.size, 0, none⟩ = some (.slice A n1 c) ∧ w'.cell? ⟨w.heap.size, 1, none⟩ = some (.slice B n2 c')) ∧ (w'.cell? ⟨w.heap.size + 1, 0, none⟩ = some (.slice A' n3 d) ∧ w'.cell? ⟨w.heap.size + 1, 1, none⟩ = some (.slice B' n4 d'))) (by kernel_rfl) (And.intro Q3.out.sk.p.two Q3.out.sk.q.two) (fun hHeld => ?_)
      refine wpAnyH_take (i := 0) (oi := { dst := some 39, op := Go.Op.load 25 (Go.Operand.tmp 4), type := 25, pos := "law.go:60", after := #[], guard := none }) (v := ?_) rfl (by kernel_rfl) (by kernel_rfl) (by kernel_rfl) (fun _ _ _ h => h) (Or.inl ⟨by rfl, ?_⟩) hHeld ?_
      rotate_left 1
      · (intro w hSw; (try dsimp only at hSw); go_simp; (try with_reducible rfl))
      simp only [Act.put, List.setIfInBounds_toArray, List.set_cons_succ, List.set_cons_zero]
      refine wpAnyH_ready (rs := [1]) (by kernel_rfl) (by simp) ?_
      refine AllReadyH.cons (o := { dst := some 40, op := Go.Op.call { callee := Go.Callee.value (Go.Operand.func 6), args := #[Go.Operand.tmp 39], argTypes := #[25] }, type := 4, pos := "law.go:60", after := #[{ on := 0, ground := Go.Ground.data }], guard := none }) rfl (fun K hK => ?_) AllReadyH.nil
      go_simp
      refine (r1.out _ Q3.out.sk.bel).mono ?_
      rintro e V23 ⟨rfl, hb⟩
      have Q4 := Lib.hid (Q3.out.step hb)
      clear hb
      refine hK.out _ _ (And.intro Q4.out.sk.p.two Q4.out.sk.q.two) (fun hHeld => ?_)
      clear hK K
      refine wpAnyH_take (i := 2) (oi := { dst := some 41, op := Go.Op.move (Go.Operand.tmp 40), type := 4, pos := "law.go:60", after := #[{ on := 1, ground := Go.Ground.data }, { on := 1, ground := Go.Ground.chain }], guard := none }) (v := ?_) rfl (by kernel_rfl) (by kernel_rfl) (by kernel_rfl) (fun _ _ _ h => h) (Or.inl ⟨by rfl, ?_⟩) hHeld ?_
      rotate_left 1
      · (intro w hSw; (try dsimp only at hSw); go_simp; (try with_reducible rfl))
      simp only [Act.put, List.setIfInBounds_toArray, List.set_cons_succ, List.set_cons_zero]
      refine wpAnyH_take (i := 3) (oi := { dst := some 42, op := Go.Op.load 25 (Go.Operand.tmp 5), type := 25, pos := "law.go:60", after := #[{ on := 2, ground := Go.Ground.guard }], guard := some (2, true) }) (v := undef) rfl (by kernel_rfl) (by kernel_rfl) (by kernel_rfl) (fun _ _ _ h => h) (Or.inr ⟨by rfl, rfl⟩) hHeld ?_
      simp only [Act.put, List.setIfInBounds_toArray, List.set_cons_succ, List.set_cons_zero]
      refine wpAnyH_take (i := 4) (oi := { dst := some 43, op := Go.Op.call { callee := Go.Callee.value (Go.Operand.func 6), args := #[Go.Operand.tmp 42], argTypes := #[25] }, type := 4, pos := "law.go:60", after := #[{ on := 3, ground := Go.Ground.data }, { on := 2, ground := Go.Ground.chain }, { on := 2, ground := Go.Ground.guard }], guard := some (2, true) }) (v := undef) rfl (by kernel_rfl) (by kernel_rfl) (by kernel_rfl) (fun _ _ _ h => h) (Or.inr ⟨by rfl, rfl⟩) hHeld ?_
      simp only [Act.put, List.setIfInBounds_toArray, List.set_cons_succ, List.set_cons_zero]
      refine wpAnyH_take (i := 5) (oi := { dst := some 44, op := Go.Op.pick (Go.Operand.tmp 41) (Go.Operand.tmp 43) (Go.Operand.const (Go.Value.bool false)), type := 4, pos := "law.go:60", after := #[{ on := 2, ground := Go.Ground.data }, { on := 4, ground := Go.Ground.data }], guard := none }) (v := ?_) rfl (by kernel_rfl) (by kernel_rfl) (by kernel_rfl) (fun _ _ _ h => h) (Or.inl ⟨by rfl, ?_⟩) hHeld ?_
      rotate_left 1
      · (intro w hSw; (try dsimp only at hSw); go_simp; (try with_reducible rfl))
      simp only [Act.put, List.setIfInBounds_toArray, List.set_cons_succ, List.set_cons_zero]
      refine wpAnyH_take (i := 6) (oi := { dst := some 45, op := Go.Op.move (Go.Operand.tmp 44), type := 4, pos := "law.go:60", after := #[{ on := 5, ground := Go.Ground.data }, { on := 4, ground := Go.Ground.chain }], guard := none }) (v := ?_) rfl (by kernel_rfl) (by kernel_rfl) (by kernel_rfl) (fun _ _ _ h => h) (Or.inl ⟨by rfl, ?_⟩) hHeld ?_
      rotate_left 1
      · (intro w hSw; (try dsimp only at hSw); go_simp; (try with_reducible rfl))
      simp only [Act.put, List.setIfInBounds_toArray, List.set_cons_succ, List.set_cons_zero]
      refine wpAnyH_take (i := 7) (oi := { dst := some 46, op := Go.Op.load 25 (Go.Operand.tmp 4), type := 25, pos := "law.go:60", after := #[{ on := 6, ground := Go.Ground.guard }], guard := some (6, true) }) (v := undef) rfl (by kernel_rfl) (by kernel_rfl) (by kernel_rfl) (fun _ _ _ h => h) (Or.inr ⟨by rfl, rfl⟩) hHeld ?_
      simp only [Act.put, List.setIfInBounds_toArray, List.set_cons_succ, List.set_cons_zero]
      refine wpAnyH_take (i := 8) (oi := { dst := some 47, op := Go.Op.call { callee := Go.Callee.value (Go.Operand.func 7), args := #[Go.Operand.tmp 46], argTypes := #[25] }, type := 9, pos := "law.go:60", after := #[{ on := 7, ground := Go.Ground.data }, { on := 6, ground := Go.Ground.chain }, { on := 6, ground := Go.Ground.guard }], guard := some (6, true) }) (v := undef) rfl (by kernel_rfl) (by kernel_rfl) (by kernel_rfl) (fun _ _ _ h => h) (Or.inr ⟨by rfl, rfl⟩) hHeld ?_
      simp only [Act.put, List.setIfInBounds_toArray, List.set_cons_succ, List.set_cons_zero]
      refine wpAnyH_take (i := 9) (oi := { dst := some 48, op := Go.Op.load 25 (Go.Operand.tmp 5), type := 25, pos := "law.go:60", after := #[{ on := 6, ground := Go.Ground.guard }], guard := some (6, true) }) (v := undef) rfl (by kernel_rfl) (by kernel_rfl) (by kernel_rfl) (fun _ _ _ h => h) (Or.inr ⟨by rfl, rfl⟩) hHeld ?_
      simp only [Act.put, List.setIfInBounds_toArray, List.set_cons_succ, List.set_cons_zero]
      refine wpAnyH_take (i := 10) (oi := { dst := some 49, op := Go.Op.call { callee := Go.Callee.value (Go.Operand.func 7), args := #[Go.Operand.tmp 48], argTypes := #[25] }, type := 9, pos := "law.go:60", after := #[{ on := 9, ground := Go.Ground.data }, { on := 8, ground := Go.Ground.chain }, { on := 6, ground := Go.Ground.guard }], guard := some (6, true) }) (v := undef) rfl (by kernel_rfl) (by kernel_rfl) (by kernel_rfl) (fun _ _ _ h => h) (Or.inr ⟨by rfl, rfl⟩) hHeld ?_
      simp only [Act.put, List.setIfInBounds_toArray, List.set_cons_succ, List.set_cons_zero]
      refine wpAnyH_take (i := 11) (oi := { dst := some 50, op := Go.Op.binOp Go.BinOp.eql 9 (Go.Operand.tmp 47) (Go.Operand.tmp 49) 9, type := 4, pos := "law.go:60", after := #[{ on := 8, ground := Go.Ground.data }, { on := 10, ground := Go.Ground.data }, { on := 6, ground := Go.Ground.guard }], guard := some (6, true) }) (v := undef) rfl (by kernel_rfl) (by kernel_rfl) (by kernel_rfl) (fun _ _ _ h => h) (Or.inr ⟨by rfl, rfl⟩) hHeld ?_
      simp only [Act.put, List.setIfInBounds_toArray, List.set_cons_succ, List.set_cons_zero]
      refine wpAnyH_take (i := 12) (oi := { dst := some 51, op := Go.Op.load 25 (Go.Operand.tmp 4), type := 25, pos := "law.go:60", after := #[{ on := 6, ground := Go.Ground.guard }], guard := some (6, true) }) (v := undef) rfl (by kernel_rfl) (by kernel_rfl) (by kernel_rfl) (fun _ _ _ h => h) (Or.inr ⟨by rfl, rfl⟩) hHeld ?_
      simp only [Act.put, List.setIfInBounds_toArray, List.set_cons_succ, List.set_cons_zero]
      refine wpAnyH_take (i := 13) (oi := { dst := some 52, op := Go.Op.load 25 (Go.Operand.tmp 5), type := 25, pos := "law.go:60", after := #[{ on := 6, ground := Go.Ground.guard }], guard := some (6, true) }) (v := undef) rfl (by kernel_rfl) (by kernel_rfl) (by kernel_rfl) (fun _ _ _ h => h) (Or.inr ⟨by rfl, rfl⟩) hHeld ?_
      simp only [Act.put, List.setIfInBounds_toArray, List.set_cons_succ, List.set_cons_zero]
      refine wpAnyH_take (i := 14) (oi := { dst := some 53, op := Go.Op.call { callee := Go.Callee.value (Go.Operand.func 8), args := #[Go.Operand.tmp 51, Go.Operand.tmp 52], argTypes := #[25, 25] }, type := 4, pos := "law.go:60", after := #[{ on := 12, ground := Go.Ground.data }, { on := 13, ground := Go.Ground.data }, { on := 10, ground := Go.Ground.chain }, { on := 6, ground := Go.Ground.guard }], guard := some (6, true) }) (v := undef) rfl (by kernel_rfl) (by kernel_rfl) (by kernel_rfl) (fun _ _ _ h => h) (Or.inr ⟨by rfl, rfl⟩) hHeld ?_
      simp only [Act.put, List.setIfInBounds_toArray, List.set_cons_succ, List.set_cons_zero]
      refine wpAnyH_take (i := 15) (oi := { dst := some 54, op := Go.Op.binOp Go.BinOp.neq 4 (Go.Operand.tmp 50) (Go.Operand.tmp 53) 4, type := 4, pos := "law.go:60", after := #[{ on := 11, ground := Go.Ground.data }, { on := 14, ground := Go.Ground.data }, { on := 6, ground := Go.Ground.guard }], guard := some (6, true) }) (v := undef) rfl (by kernel_rfl) (by kernel_rfl) (by kernel_rfl) (fun _ _ _ h => h) (Or.inr ⟨by rfl, rfl⟩) hHeld ?_
      simp only [Act.put, List.setIfInBounds_toArray, List.set_cons_succ, List.set_cons_zero]
      refine wpAnyH_take (i := 16) (oi := { dst := some 55, op := Go.Op.pick (Go.Operand.tmp 45) (Go.Operand.tmp 54) (Go.Operand.const (Go.Value.bool false)), type := 4, pos := "law.go:60", after := #[{ on := 6, ground := Go.Ground.data }, { on := 15, ground := Go.Ground.data }], guard := none }) (v := ?_) rfl (by kernel_rfl) (by kernel_rfl) (by kernel_rfl) (fun _ _ _ h => h) (Or.inl ⟨by rfl, ?_⟩) hHeld ?_
      rotate_left 1
      · (intro w hSw; (try dsimp only at hSw); go_simp; (try with_reducible rfl))
      simp only [Act.put, List.setIfInBounds_toArray, List.set_cons_succ, List.set_cons_zero]
      refine wpAnyH_done (by kernel_rfl) ?_ _
      refine NoPanic.normal ?_
      go_wp2_with fail
      exact H8.out _ _ _ _ _ _ _ _ _ _ _ _ _ _ _ _ _ _ Q4.out
    | true =>
    cases R2 with
    | false =>
      refine wp_region_noPanic ?_
      refine wp_region_held_drew (S := fun w' => (w'.cell? ⟨w.heap.size, 0, none⟩ = some (.slice A n1 c) ∧ w'.cell? ⟨w.heap.size, 1, none⟩ = some (.slice B n2 c')) ∧ (w'.cell? ⟨w.heap.size + 1, 0, none⟩ = some (.slice A' n3 d) ∧ w'.cell? ⟨w.heap.size + 1, 1, none⟩ = some (.slice B' n4 d'))) (by kernel_rfl) (And.intro Q3.out.sk.p.two Q3.out.sk.q.two) (fun hHeld => ?_)
      refine wpAnyH_take (i := 0) (oi := { dst := some 39, op := Go.Op.load 25 (Go.Operand.tmp 4), type := 25, pos := "law.go:60", after := #[], guard := none }) (v := ?_) rfl (by kernel_rfl) (by kernel_rfl) (by kernel_rfl) (fun _ _ _ h => h) (Or.inl ⟨by rfl, ?_⟩) hHeld ?_
      rotate_left 1
      · (intro w hSw; (try dsimp only at hSw); go_simp; (try with_reducible rfl))
      simp only [Act.put, List.setIfInBounds_toArray, List.set_cons_succ, List.set_cons_zero]
      refine wpAnyH_ready (rs := [1]) (by kernel_rfl) (by simp) ?_
      refine AllReadyH.cons (o := { dst := some 40, op := Go.Op.call { callee := Go.Callee.value (Go.Operand.func 6), args := #[Go.Operand.tmp 39], argTypes := #[25] }, type := 4, pos := "law.go:60", after := #[{ on := 0, ground := Go.Ground.data }], guard := none }) rfl (fun K hK => ?_) AllReadyH.nil
      go_simp
      refine (r1.out _ Q3.out.sk.bel).mono ?_
      rintro e V23 ⟨rfl, hb⟩
      have Q4 := Lib.hid (Q3.out.step hb)
      clear hb
      refine hK.out _ _ (And.intro Q4.out.sk.p.two Q4.out.sk.q.two) (fun hHeld => ?_)
      clear hK K
      refine wpAnyH_take (i := 2) (oi := { dst := some 41, op := Go.Op.move (Go.Operand.tmp 40), type := 4, pos := "law.go:60", after := #[{ on := 1, ground := Go.Ground.data }, { on := 1, ground := Go.Ground.chain }], guard := none }) (v := ?_) rfl (by kernel_rfl) (by kernel_rfl) (by kernel_rfl) (fun _ _ _ h => h) (Or.inl ⟨by rfl, ?_⟩) hHeld ?_
      rotate_left 1
      · (intro w hSw; (try dsimp only at hSw); go_simp; (try with_reducible rfl))
      simp only [Act.put, List.setIfInBounds_toArray, List.set_cons_succ, List.set_cons_zero]
      refine wpAnyH_take (i := 3) (oi := { dst := some 42, op := Go.Op.load 25 (Go.Operand.tmp 5), type := 25, pos := "law.go:60", after := #[{ on := 2, ground := Go.Ground.guard }], guard := some (2, true) }) (v := ?_) rfl (by kernel_rfl) (by kernel_rfl) (by kernel_rfl) (fun _ _ _ h => h) (Or.inl ⟨by rfl, ?_⟩) hHeld ?_
      rotate_left 1
      · (intro w hSw; (try dsimp only at hSw); go_simp; (try with_reducible rfl))
      simp only [Act.put, List.setIfInBounds_toArray, List.set_cons_succ, List.set_cons_zero]
      refine wpAnyH_ready (rs := [4]) (by kernel_rfl) (by simp) ?_
      refine AllReadyH.cons (o := { dst := some 43, op := Go.Op.call { callee := Go.Callee.value (Go.Operand.func 6), args := #[Go.Operand.tmp 42], argTypes := #[25] }, type := 4, pos := "law.go:60", after := #[{ on := 3, ground := Go.Ground.data }, { on := 2, ground := Go.Ground.chain }, { on := 2, ground := Go.Ground.guard }], guard := some (2, true) }) rfl (fun K hK => ?_) AllReadyH.nil
      go_simp
      refine (r2.out _ Q4.out.sk.bel).mono ?_
      rintro e V24 ⟨rfl, hb⟩
      have Q5 := Lib.hid (Q4.out.step hb)
      clear hb
      refine hK.out _ _ (And.intro Q5.out.sk.p.two Q5.out.sk.q.two) (fun hHeld => ?_)
      clear hK K
      refine wpAnyH_take (i := 5) (oi := { dst := some 44, op := Go.Op.pick (Go.Operand.tmp 41) (Go.Operand.tmp 43) (Go.Operand.const (Go.Value.bool false)), type := 4, pos := "law.go:60", after := #[{ on := 2, ground := Go.Ground.data }, { on := 4, ground := Go.Ground.data }], guard := none }) (v := ?_) rfl (by kernel_rfl) (by kernel_rfl) (by kernel_rfl) (fun _ _ _ h => h) (Or.inl ⟨by rfl, ?_⟩) hHeld ?_
      rotate_left 1
      · (intro w hSw; (try dsimp only at hSw); go_simp; (try with_reducible rfl))
      simp only [Act.put, List.setIfInBounds_toArray, List.set_cons_succ, List.set_cons_zero]
      refine wpAnyH_take (i := 6) (oi := { dst := some 45, op := Go.Op.move (Go.Operand.tmp 44), type := 4, pos := "law.go:60", after := #[{ on := 5, ground := Go.Ground.data }, { on := 4, ground := Go.Ground.chain }], guard := none }) (v := ?_) rfl (by kernel_rfl) (by kernel_rfl) (by kernel_rfl) (fun _ _ _ h => h) (Or.inl ⟨by rfl, ?_⟩) hHeld ?_
      rotate_left 1
      · (intro w hSw; (try dsimp only at hSw); go_simp; (try with_reducible rfl))
      simp only [Act.put, List.setIfInBounds_toArray, List.set_cons_succ, List.set_cons_zero]
      refine wpAnyH_take (i := 7) (oi := { dst := some 46, op := Go.Op.load 25 (Go.Operand.tmp 4), type := 25, pos := "law.go:60", after := #[{ on := 6, ground := Go.Ground.guard }], guard := some (6, true) }) (v := undef) rfl (by kernel_rfl) (by kernel_rfl) (by kernel_rfl) (fun _ _ _ h => h) (Or.inr ⟨by rfl, rfl⟩) hHeld ?_
      simp only [Act.put, List.setIfInBounds_toArray, List.set_cons_succ, List.set_cons_zero]
      refine wpAnyH_take (i := 8) (oi := { dst := some 47, op := Go.Op.call { callee := Go.Callee.value (Go.Operand.func 7), args := #[Go.Operand.tmp 46], argTypes := #[25] }, type := 9, pos := "law.go:60", after := #[{ on := 7, ground := Go.Ground.data }, { on := 6, ground := Go.Ground.chain }, { on := 6, ground := Go.Ground.guard }], guard := some (6, true) }) (v := undef) rfl (by kernel_rfl) (by kernel_rfl) (by kernel_rfl) (fun _ _ _ h => h) (Or.inr ⟨by rfl, rfl⟩) hHeld ?_
      simp only [Act.put, List.setIfInBounds_toArray, List.set_cons_succ, List.set_cons_zero]
      refine wpAnyH_take (i := 9) (oi := { dst := some 48, op := Go.Op.load 25 (Go.Operand.tmp 5), type := 25, pos := "law.go:60", after := #[{ on := 6, ground := Go.Ground.guard }], guard := some (6, true) }) (v := undef) rfl (by kernel_rfl) (by kernel_rfl) (by kernel_rfl) (fun _ _ _ h => h) (Or.inr ⟨by rfl, rfl⟩) hHeld ?_
      simp only [Act.put, List.setIfInBounds_toArray, List.set_cons_succ, List.set_cons_zero]
      refine wpAnyH_take (i := 10) (oi := { dst := some 49, op := Go.Op.call { callee := Go.Callee.value (Go.Operand.func 7), args := #[Go.Operand.tmp 48], argTypes := #[25] }, type := 9, pos := "law.go:60", after := #[{ on := 9, ground := Go.Ground.data }, { on := 8, ground := Go.Ground.chain }, { on := 6, ground := Go.Ground.guard }], guard := some (6, true) }) (v := undef) rfl (by kernel_rfl) (by kernel_rfl) (by kernel_rfl) (fun _ _ _ h => h) (Or.inr ⟨by rfl, rfl⟩) hHeld ?_
      simp only [Act.put, List.setIfInBounds_toArray, List.set_cons_succ, List.set_cons_zero]
      refine wpAnyH_take (i := 11) (oi := { dst := some 50, op := Go.Op.binOp Go.BinOp.eql 9 (Go.Operand.tmp 47) (Go.Operand.tmp 49) 9, type := 4, pos := "law.go:60", after := #[{ on := 8, ground := Go.Ground.data }, { on := 10, ground := Go.Ground.data }, { on := 6, ground := Go.Ground.guard }], guard := some (6, true) }) (v := undef) rfl (by kernel_rfl) (by kernel_rfl) (by kernel_rfl) (fun _ _ _ h => h) (Or.inr ⟨by rfl, rfl⟩) hHeld ?_
      simp only [Act.put, List.setIfInBounds_toArray, List.set_cons_succ, List.set_cons_zero]
      refine wpAnyH_take (i := 12) (oi := { dst := some 51, op := Go.Op.load 25 (Go.Operand.tmp 4), type := 25, pos := "law.go:60", after := #[{ on := 6, ground := Go.Ground.guard }], guard := some (6, true) }) (v := undef) rfl (by kernel_rfl) (by kernel_rfl) (by kernel_rfl) (fun _ _ _ h => h) (Or.inr ⟨by rfl, rfl⟩) hHeld ?_
      simp only [Act.put, List.setIfInBounds_toArray, List.set_cons_succ, List.set_cons_zero]
      refine wpAnyH_take (i := 13) (oi := { dst := some 52, op := Go.Op.load 25 (Go.Operand.tmp 5), type := 25, pos := "law.go:60", after := #[{ on := 6, ground := Go.Ground.guard }], guard := some (6, true) }) (v := undef) rfl (by kernel_rfl) (by kernel_rfl) (by kernel_rfl) (fun _ _ _ h => h) (Or.inr ⟨by rfl, rfl⟩) hHeld ?_
      simp only [Act.put, List.setIfInBounds_toArray, List.set_cons_succ, List.set_cons_zero]
      refine wpAnyH_take (i := 14) (oi := { dst := some 53, op := Go.Op.call { callee := Go.Callee.value (Go.Operand.func 8), args := #[Go.Operand.tmp 51, Go.Operand.tmp 52], argTypes := #[25, 25] }, type := 4, pos := "law.go:60", after := #[{ on := 12, ground := Go.Ground.data }, { on := 13, ground := Go.Ground.data }, { on := 10, ground := Go.Ground.chain }, { on := 6, ground := Go.Ground.guard }], guard := some (6, true) }) (v := undef) rfl (by kernel_rfl) (by kernel_rfl) (by kernel_rfl) (fun _ _ _ h => h) (Or.inr ⟨by rfl, rfl⟩) hHeld ?_
      simp only [Act.put, List.setIfInBounds_toArray, List.set_cons_succ, List.set_cons_zero]
      refine wpAnyH_take (i := 15) (oi := { dst := some 54, op := Go.Op.binOp Go.BinOp.neq 4 (Go.Operand.tmp 50) (Go.Operand.tmp 53) 4, type := 4, pos := "law.go:60", after := #[{ on := 11, ground := Go.Ground.data }, { on := 14, ground := Go.Ground.data }, { on := 6, ground := Go.Ground.guard }], guard := some (6, true) }) (v := undef) rfl (by kernel_rfl) (by kernel_rfl) (by kernel_rfl) (fun _ _ _ h => h) (Or.inr ⟨by rfl, rfl⟩) hHeld ?_
      simp only [Act.put, List.setIfInBounds_toArray, List.set_cons_succ, List.set_cons_zero]
      refine wpAnyH_take (i := 16) (oi := { dst := some 55, op := Go.Op.pick (Go.Operand.tmp 45) (Go.Operand.tmp 54) (Go.Operand.const (Go.Value.bool false)), type := 4, pos := "law.go:60", after := #[{ on := 6, ground := Go.Ground.data }, { on := 15, ground := Go.Ground.data }], guard := none }) (v := ?_) rfl (by kernel_rfl) (by kernel_rfl) (by kernel_rfl) (fun _ _ _ h => h) (Or.inl ⟨by rfl, ?_⟩) hHeld ?_
      rotate_left 1
      · (intro w hSw; (try dsimp only at hSw); go_simp; (try with_reducible rfl))
      simp only [Act.put, List.setIfInBounds_toArray, List.set_cons_succ, List.set_cons_zero]
      refine wpAnyH_done (by kernel_rfl) ?_ _
      refine NoPanic.normal ?_
      go_wp2_with fail
      exact H8.out _ _ _ _ _ _ _ _ _ _ _ _ _ _ _ _ _ _ Q5.out
    | true =>
      have c3 := HC3.out rfl rfl
      refine wp_region_noPanic ?_
      refine wp_region_held_drew (S := fun w' => (w'.cell? ⟨w.heap.size, 0, none⟩ = some (.slice A n1 c) ∧ w'.cell? ⟨w.heap.size, 1, none⟩ = some (.slice B n2 c')) ∧ (w'.cell? ⟨w.heap.size + 1, 0, none⟩ = some (.slice A' n3 d) ∧ w'.cell? ⟨w.heap.size + 1, 1, none⟩ = some (.slice B' n4 d'))) (by kernel_rfl) (And.intro Q3.out.sk.p.two Q3.out.sk.q.two) (fun hHeld => ?_)
      refine wpAnyH_take (i := 0) (oi := { dst := some 39, op := Go.Op.load 25 (Go.Operand.tmp 4), type := 25, pos := "law.go:60", after := #[], guard := none }) (v := ?_) rfl (by kernel_rfl) (by kernel_rfl) (by kernel_rfl) (fun _ _ _ h => h) (Or.inl ⟨by rfl, ?_⟩) hHeld ?_
      rotate_left 1
      · (intro w hSw; (try dsimp only at hSw); go_simp; (try with_reducible rfl))
      simp only [Act.put, List.setIfInBounds_toArray, List.set_cons_succ, List.set_cons_zero]
      refine wpAnyH_ready (rs := [1]) (by kernel_rfl) (by simp) ?_
      refine AllReadyH.cons (o := { dst := some 40, op := Go.Op.call { callee := Go.Callee.value (Go.Operand.func 6), args := #[Go.Operand.tmp 39], argTypes := #[25] }, type := 4, pos := "law.go:60", after := #[{ on := 0, ground := Go.Ground.data }], guard := none }) rfl (fun K hK => ?_) AllReadyH.nil
      go_simp
      refine (r1.out _ Q3.out.sk.bel).mono ?_
      rintro e V23 ⟨rfl, hb⟩
      have Q4 := Lib.hid (Q3.out.step hb)
      clear hb
      refine hK.out _ _ (And.intro Q4.out.sk.p.two Q4.out.sk.q.two) (fun hHeld => ?_)
      clear hK K
      refine wpAnyH_take (i := 2) (oi := { dst := some 41, op := Go.Op.move (Go.Operand.tmp 40), type := 4, pos := "law.go:60", after := #[{ on := 1, ground := Go.Ground.data }, { on := 1, ground := Go.Ground.chain }], guard := none }) (v := ?_) rfl (by kernel_rfl) (by kernel_rfl) (by kernel_rfl) (fun _ _ _ h => h) (Or.inl ⟨by rfl, ?_⟩) hHeld ?_
      rotate_left 1
      · (intro w hSw; (try dsimp only at hSw); go_simp; (try with_reducible rfl))
      simp only [Act.put, List.setIfInBounds_toArray, List.set_cons_succ, List.set_cons_zero]
      refine wpAnyH_take (i := 3) (oi := { dst := some 42, op := Go.Op.load 25 (Go.Operand.tmp 5), type := 25, pos := "law.go:60", after := #[{ on := 2, ground := Go.Ground.guard }], guard := some (2, true) }) (v := ?_) rfl (by kernel_rfl) (by kernel_rfl) (by kernel_rfl) (fun _ _ _ h => h) (Or.inl ⟨by rfl, ?_⟩) hHeld ?_
      rotate_left 1
      · (intro w hSw; (try dsimp only at hSw); go_simp; (try with_reducible rfl))
      simp only [Act.put, List.setIfInBounds_toArray, List.set_cons_succ, List.set_cons_zero]
      refine wpAnyH_ready (rs := [4]) (by kernel_rfl) (by simp) ?_
      refine AllReadyH.cons (o := { dst := some 43, op := Go.Op.call { callee := Go.Callee.value (Go.Operand.func 6), args := #[Go.Operand.tmp 42], argTypes := #[25] }, type := 4, pos := "law.go:60", after := #[{ on := 3, ground := Go.Ground.data }, { on := 2, ground := Go.Ground.chain }, { on := 2, ground := Go.Ground.guard }], guard := some (2, true) }) rfl (fun K hK => ?_) AllReadyH.nil
      go_simp
      refine (r2.out _ Q4.out.sk.bel).mono ?_
      rintro e V24 ⟨rfl, hb⟩
      have Q5 := Lib.hid (Q4.out.step hb)
      clear hb
      refine hK.out _ _ (And.intro Q5.out.sk.p.two Q5.out.sk.q.two) (fun hHeld => ?_)
      clear hK K
      refine wpAnyH_take (i := 5) (oi := { dst := some 44, op := Go.Op.pick (Go.Operand.tmp 41) (Go.Operand.tmp 43) (Go.Operand.const (Go.Value.bool false)), type := 4, pos := "law.go:60", after := #[{ on := 2, ground := Go.Ground.data }, { on := 4, ground := Go.Ground.data }], guard := none }) (v := ?_) rfl (by kernel_rfl) (by kernel_rfl) (by kernel_rfl) (fun _ _ _ h => h) (Or.inl ⟨by rfl, ?_⟩) hHeld ?_
      rotate_left 1
      · (intro w hSw; (try dsimp only at hSw); go_simp; (try with_reducible rfl))
      simp only [Act.put, List.setIfInBounds_toArray, List.set_cons_succ, List.set_cons_zero]
      refine wpAnyH_take (i := 6) (oi := { dst := some 45, op := Go.Op.move (Go.Operand.tmp 44), type := 4, pos := "law.go:60", after := #[{ on := 5, ground := Go.Ground.data }, { on := 4, ground := Go.Ground.chain }], guard := none }) (v := ?_) rfl (by kernel_rfl) (by kernel_rfl) (by kernel_rfl) (fun _ _ _ h => h) (Or.inl ⟨by rfl, ?_⟩) hHeld ?_
      rotate_left 1
      · (intro w hSw; (try dsimp only at hSw); go_simp; (try with_reducible rfl))
      simp only [Act.put, List.setIfInBounds_toArray, List.set_cons_succ, List.set_cons_zero]
      refine wpAnyH_take (i := 7) (oi := { dst := some 46, op := Go.Op.load 25 (Go.Operand.tmp 4), type := 25, pos := "law.go:60", after := #[{ on := 6, ground := Go.Ground.guard }], guard := some (6, true) }) (v := ?_) rfl (by kernel_rfl) (by kernel_rfl) (by kernel_rfl) (fun _ _ _ h => h) (Or.inl ⟨by rfl, ?_⟩) hHeld ?_
      rotate_left 1
      · (intro w hSw; (try dsimp only at hSw); go_simp; (try with_reducible rfl))
      simp only [Act.put, List.setIfInBounds_toArray, List.set_cons_succ, List.set_cons_zero]
      refine wpAnyH_take (i := 9) (oi := { dst := some 48, op := Go.Op.load 25 (Go.Operand.tmp 5), type := 25, pos := "law.go:60", after := #[{ on := 6, ground := Go.Ground.guard }], guard := some (6, true) }) (v := ?_) rfl (by kernel_rfl) (by kernel_rfl) (by kernel_rfl) (fun _ _ _ h => h) (Or.inl ⟨by rfl, ?_⟩) hHeld ?_
      rotate_left 1
      · (intro w hSw; (try dsimp only at hSw); go_simp; (try with_reducible rfl))
      simp only [Act.put, List.setIfInBounds_toArray, List.set_cons_succ, List.set_cons_zero]
      refine wpAnyH_take (i := 12) (oi := { dst := some 51, op := Go.Op.load 25 (Go.Operand.tmp 4), type := 25, pos := "law.go:60", after := #[{ on := 6, ground := Go.Ground.guard }], guard := some (6, true) }) (v := ?_) rfl (by kernel_rfl) (by kernel_rfl) (by kernel_rfl) (fun _ _ _ h => h) (Or.inl ⟨by rfl, ?_⟩) hHeld ?_
      rotate_left 1
      · (intro w hSw; (try dsimp only at hSw); go_simp; (try with_reducible rfl))
      simp only [Act.put, List.setIfInBounds_toArray, List.set_cons_succ, List.set_cons_zero]
      refine wpAnyH_take (i := 13) (oi := { dst := some 52, op := Go.Op.load 25 (Go.Operand.tmp 5), type := 25, pos := "law.go:60", after := #[{ on := 6, ground := Go.Ground.guard }], guard := some (6, true) }) (v := ?_) rfl (by kernel_rfl) (by kernel_rfl) (by kernel_rfl) (fun _ _ _ h => h) (Or.inl ⟨by rfl, ?_⟩) hHeld ?_
      rotate_left 1
      · (intro w hSw; (try dsimp only at hSw); go_simp; (try with_reducible rfl))
      simp only [Act.put, List.setIfInBounds_toArray, List.set_cons_succ, List.set_cons_zero]
      refine wpAnyH_ready (rs := [8]) (by kernel_rfl) (by simp) ?_
      refine AllReadyH.cons (o := { dst := some 47, op := Go.Op.call { callee := Go.Callee.value (Go.Operand.func 7), args := #[Go.Operand.tmp 46], argTypes := #[25] }, type := 9, pos := "law.go:60", after := #[{ on := 7, ground := Go.Ground.data }, { on := 6, ground := Go.Ground.chain }, { on := 6, ground := Go.Ground.guard }], guard := some (6, true) }) rfl (fun K hK => ?_) AllReadyH.nil
      go_simp
      refine (p1.out _ Q5.out.sk.bel).mono ?_
      rintro e V25 ⟨rfl, hb⟩
      have Q6 := Lib.hid (Q5.out.step hb)
      clear hb
      refine hK.out _ _ (And.intro Q6.out.sk.p.two Q6.out.sk.q.two) (fun hHeld => ?_)
      clear hK K
      refine wpAnyH_ready (rs := [10]) (by kernel_rfl) (by simp) ?_
      refine AllReadyH.cons (o := { dst := some 49, op := Go.Op.call { callee := Go.Callee.value (Go.Operand.func 7), args := #[Go.Operand.tmp 48], argTypes := #[25] }, type := 9, pos := "law.go:60", after := #[{ on := 9, ground := Go.Ground.data }, { on := 8, ground := Go.Ground.chain }, { on := 6, ground := Go.Ground.guard }], guard := some (6, true) }) rfl (fun K hK => ?_) AllReadyH.nil
      go_simp
      refine (p2.out _ Q6.out.sk.bel).mono ?_
      rintro e V26 ⟨rfl, hb⟩
      have Q7 := Lib.hid (Q6.out.step hb)
      clear hb
      refine hK.out _ _ (And.intro Q7.out.sk.p.two Q7.out.sk.q.two) (fun hHeld => ?_)
      clear hK K
      refine wpAnyH_take (i := 11) (oi := { dst := some 50, op := Go.Op.binOp Go.BinOp.eql 9 (Go.Operand.tmp 47) (Go.Operand.tmp 49) 9, type := 4, pos := "law.go:60", after := #[{ on := 8, ground := Go.Ground.data }, { on := 10, ground := Go.Ground.data }, { on := 6, ground := Go.Ground.guard }], guard := some (6, true) }) (v := ?_) rfl (by kernel_rfl) (by kernel_rfl) (by kernel_rfl) (fun _ _ _ h => h) (Or.inl ⟨by rfl, ?_⟩) hHeld ?_
      rotate_left 1
      · (intro w hSw; (try dsimp only at hSw); go_simp; (try with_reducible rfl))
      simp only [Act.put, List.setIfInBounds_toArray, List.set_cons_succ, List.set_cons_zero]
      refine wpAnyH_ready (rs := [14]) (by kernel_rfl) (by simp) ?_
      refine AllReadyH.cons (o := { dst := some 53, op := Go.Op.call { callee := Go.Callee.value (Go.Operand.func 8), args := #[Go.Operand.tmp 51, Go.Operand.tmp 52], argTypes := #[25, 25] }, type := 4, pos := "law.go:60", after := #[{ on := 12, ground := Go.Ground.data }, { on := 13, ground := Go.Ground.data }, { on := 10, ground := Go.Ground.chain }, { on := 6, ground := Go.Ground.guard }], guard := some (6, true) }) rfl (fun K hK => ?_) AllReadyH.nil
      go_simp
      refine (s1.out _ Q7.out.sk.bel).mono ?_
      rintro e V27 ⟨rfl, hb⟩
      have Q8 := Lib.hid (Q7.out.step hb)
      clear hb
      refine hK.out _ _ (And.intro Q8.out.sk.p.two Q8.out.sk.q.two) (fun hHeld => ?_)
      clear hK K
      refine wpAnyH_take (i := 15) (oi := { dst := some 54, op := Go.Op.binOp Go.BinOp.neq 4 (Go.Operand.tmp 50) (Go.Operand.tmp 53) 4, type := 4, pos := "law.go:60", after := #[{ on := 11, ground := Go.Ground.data }, { on := 14, ground := Go.Ground.data }, { on := 6, ground := Go.Ground.guard }], guard := some (6, true) }) (v := ?_) rfl (by kernel_rfl) (by kernel_rfl) (by kernel_rfl) (fun _ _ _ h => h) (Or.inl ⟨by rfl, ?_⟩) hHeld ?_
      rotate_left 1
      · (intro w hSw; (try dsimp only at hSw); go_simp; (try with_reducible rfl))
      simp only [Act.put, List.setIfInBounds_toArray, List.set_cons_succ, List.set_cons_zero]
      refine wpAnyH_take (i := 16) (oi := { dst := some 55, op := Go.Op.pick (Go.Operand.tmp 45) (Go.Operand.tmp 54) (Go.Operand.const (Go.Value.bool false)), type := 4, pos := "law.go:60", after := #[{ on := 6, ground := Go.Ground.data }, { on := 15, ground := Go.Ground.data }], guard := none }) (v := ?_) rfl (by kernel_rfl) (by kernel_rfl) (by kernel_rfl) (fun _ _ _ h => h) (Or.inl ⟨by rfl, ?_⟩) hHeld ?_
      rotate_left 1
      · (intro w hSw; (try dsimp only at hSw); go_simp; (try with_reducible rfl))
      simp only [Act.put, List.setIfInBounds_toArray, List.set_cons_succ, List.set_cons_zero]
      refine wpAnyH_done (by kernel_rfl) ?_ _
      refine NoPanic.normal ?_
      go_wp2_with fail
      exact H8.out _ _ _ _ _ _ _ _ _ _ _ _ _ _ _ _ _ _ Q8.out
end
end Go.Proofs.YtejifkeeihkcjaaDoor
