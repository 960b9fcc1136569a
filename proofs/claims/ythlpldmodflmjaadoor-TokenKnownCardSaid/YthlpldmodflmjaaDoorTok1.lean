/- The contracts of layer 5's after and Next. -/
import Derived.Test.YthlpldmodflmjaaDoorTokZ
import Derived.Test.YthlpldmodflmjaaDoorTokN
import Derived.StillTailTactics
namespace Go.Proofs.YthlpldmodflmjaaDoor
open Go.RowKit

/-- What after keeps: the position, the answers, the piece. -/
structure KA (w : World) (ga gt gf gp : Nat) (va vp : List Value) (W : World) : Prop where
  a : Box W ga va
  t : Box W gt [.int .i64 0, .string ⟨#[]⟩, .int .i64 0, .int .i64 0, .int .i64 0]
  f : Box W gf [.int .i64 0, .int .i64 0, .int .i64 0]
  p : Box W gp vp
  below : Below w.heap.size w W
theorem KA.step {w W W' : World} {ga gt gf gp : Nat} {va vp : List Value} (h : KA w ga gt gf gp va vp W) (hb : Below W.heap.size W W') : KA w ga gt gf gp va vp W' := ⟨h.a.step hb, h.t.step hb, h.f.step hb, h.p.step hb, bth5 h.below hb⟩
theorem KA.setA {w W : World} {ga gt gf gp : Nat} {va vp : List Value} (h : KA w ga gt gf gp va vp W) (h1 : ga ≠ gt) (h2 : ga ≠ gf) (h3 : ga ≠ gp) (h4 : w.heap.size ≤ ga) (j : Nat) (u : Value) : KA w ga gt gf gp (va.set j u) vp (W.setCell ⟨ga, j, none⟩ u) :=
  ⟨h.a.set j u, h.t.far h1 u, h.f.far h2 u, h.p.far h3 u, h.below.setCell h4 u⟩
theorem sA {W : World} {ga gp : Nat} {l c k q E n err : Value} (ha : Box W ga [l, c]) (hp : Box W gp [k, q, E, n, err]) : W.cell? ⟨ga, 0, none⟩ = some l ∧ W.cell? ⟨ga, 1, none⟩ = some c ∧ W.cell? ⟨gp, 1, none⟩ = some q ∧ W.cell? ⟨gp, 4, none⟩ = some err := ⟨ha.two.1, ha.two.2, hp.five5.2.1, hp.five5.2.2.2.2⟩
theorem sB {W : World} {ga gp : Nat} {l c k q E n err : Value} (ha : Box W ga [l, c]) (hp : Box W gp [k, q, E, n, err]) : W.cell? ⟨ga, 0, none⟩ = some l ∧ W.cell? ⟨ga, 1, none⟩ = some c ∧ W.cell? ⟨gp, 0, none⟩ = some k ∧ W.cell? ⟨gp, 2, none⟩ = some E ∧ W.cell? ⟨gp, 3, none⟩ = some n := ⟨ha.two.1, ha.two.2, hp.five5.1, hp.five5.2.2.1, hp.five5.2.2.2.1⟩
/-- Three boxes, new. -/
theorem threeNew (w : World) (va vt vf : List Value) (Ta Tt Tf : TypeId) : Box (((w.alloc (.cells va.toArray Ta)).alloc (.cells vt.toArray Tt)).alloc (.cells vf.toArray Tf)) w.heap.size va ∧ Box (((w.alloc (.cells va.toArray Ta)).alloc (.cells vt.toArray Tt)).alloc (.cells vf.toArray Tf)) (w.heap.size + 1) vt ∧ Box (((w.alloc (.cells va.toArray Ta)).alloc (.cells vt.toArray Tt)).alloc (.cells vf.toArray Tf)) (w.heap.size + 1 + 1) vf ∧ Below w.heap.size w (((w.alloc (.cells va.toArray Ta)).alloc (.cells vt.toArray Tt)).alloc (.cells vf.toArray Tf)) ∧ (((w.alloc (.cells va.toArray Ta)).alloc (.cells vt.toArray Tt)).alloc (.cells vf.toArray Tf)).heap.size = w.heap.size + 3 := by
  have b1 := Box.new w va Ta
  have b2 := Box.new (w.alloc (.cells va.toArray Ta)) vt Tt
  have b3 := Box.new ((w.alloc (.cells va.toArray Ta)).alloc (.cells vt.toArray Tt)) vf Tf
  have e1 : (w.alloc (.cells va.toArray Ta)).heap.size = w.heap.size + 1 := by simp
  have e2 : ((w.alloc (.cells va.toArray Ta)).alloc (.cells vt.toArray Tt)).heap.size = w.heap.size + 1 + 1 := by simp
  rw [e1] at b2
  rw [e2] at b3
  exact ⟨(b1.step (bnew5 _ _)).step (bnew5 _ _), b2.step (bnew5 _ _), b3, bth5 (bth5 (bnew5 _ _) (bnew5 _ _)) (bnew5 _ _), by simp⟩

set_option maxHeartbeats 4000000 in
set_option maxRecDepth 100000 in
theorem tokAfter (s : ByteArray) (p : Nat) (hp : p ≤ s.size) (hs : s.size ≤ 100000) (l c : Int) (hlc : l = ((spot s.data.toList p).1 : Nat) ∧ c = ((spot s.data.toList p).2 : Nat)) (w : World) (hL : LaidR w) :
    Calls Tryd.prog 25 #[.string s, .int .i64 p, .agg #[.int .i64 l, .int .i64 c]] w fun e w' => e = .returned (nextA (nextP s.data.toList p)) ∧ Below w.heap.size w w' := by
  have hsl := size_len_ s
  obtain ⟨q, hq⟩ : ∃ q, q = p + skipL (s.data.toList.drop p) false := ⟨_, rfl⟩
  have hqle : q ≤ s.size := by rw [hq, ← hsl]; exact skip_le _ _ (by omega)
  have hpq : p ≤ q := by omega
  have q1 := fun w hL => tokCut s p hp hs w hL
  rw [← hq] at q1
  have q2 := fun w => tokMovedIn s p q hpq hqle hs w
  rw [← hlc.1, ← hlc.2] at q2
  have hV : nextP s.data.toList p = nextQ s.data.toList q := by unfold nextP; rw [← hq]
  rw [nextQ_piece] at hV
  have hle := pieceQ_le (L := s.data.toList) (q := q) (by omega)
  obtain ⟨k, E, n, err, hP⟩ : ∃ k E n err, pieceQ s.data.toList q = (k, E, n, err) := ⟨_, _, _, _, rfl⟩
  unfold pieceA at q1
  rw [hP] at q1 hV hle
  simp only at q1 hV hle
  obtain ⟨l2, hl2⟩ : ∃ l2 : Int, l2 = ((spot s.data.toList q).1 : Nat) := ⟨_, rfl⟩
  obtain ⟨c2, hc2⟩ : ∃ c2 : Int, c2 = ((spot s.data.toList q).2 : Nat) := ⟨_, rfl⟩
  rw [← hl2, ← hc2] at q2 hV
  have HV := Lib.hid hV
  have hL0 := Lib.hid hL
  have hx : (s.extract q E).data.toList = (s.data.toList.drop q).take (E - q) := by
    rw [extract_span5]
    unfold span
    rw [List.drop_take]
  have HX : Hid ((⟨((s.data.toList.drop q).take (E - q)).toArray⟩ : ByteArray) = s.extract q E) := by
    show _ = _
    rw [← hx]
  have hsz : (s.extract q E).size ≤ 100000 := by simp; omega
  have q3 := fun w => tokClone (s.extract q E) hsz w
  clear hq hV hP hlc hl2 hc2 hL hx hsz
  have v1 : (p : Int) ≤ q := by omega
  have v2 : (q : Int) ≤ s.size := by omega
  have v3 : (q : Int) ≤ E := by omega
  have v4 : (E : Int) ≤ s.size := by omega
  have v5 : (0 : Int) ≤ p := by omega
  have v6 : (0 : Int) ≤ q := by omega
  have v7 : (0 : Int) ≤ E := by omega
  generalize hts : s.extract p q = ts at *
  generalize hxs : s.extract q E = xs at *
  go_enter Tryd.func25, Tryd.ntmps25
  go_wp2_with fail
  have hH := threeNew w [.int .i64 l, .int .i64 c] [.int .i64 0, .string ⟨#[]⟩, .int .i64 0, .int .i64 0, .int .i64 0] [.int .i64 0, .int .i64 0, .int .i64 0] 32 34 36
  generalize ((w.alloc (.cells #[.int .i64 l, .int .i64 c] 32)).alloc (.cells #[.int .i64 0, .string ⟨#[]⟩, .int .i64 0, .int .i64 0, .int .i64 0] 34)).alloc (.cells #[.int .i64 0, .int .i64 0, .int .i64 0] 36) = W0 at *
  refine (q1 _ (hL0.out.below hH.2.2.2.1)).mono ?_
  rintro e w1 ⟨rfl, hb1⟩
  have hs1 := hb1.size
  have hbn := bnew5 w1 (.cells #[.int .i64 k, .int .i64 q, .int .i64 E, .int .i64 n, .int .i64 err] 77)
  have hk : Hid (KA w w.heap.size (w.heap.size + 1) (w.heap.size + 1 + 1) w1.heap.size [.int .i64 l, .int .i64 c] [.int .i64 k, .int .i64 q, .int .i64 E, .int .i64 n, .int .i64 err] (w1.alloc (.cells #[.int .i64 k, .int .i64 q, .int .i64 E, .int .i64 n, .int .i64 err] 77)) ∧ w.heap.size + 3 ≤ w1.heap.size) :=
    ⟨⟨(hH.1.step hb1).step hbn, (hH.2.1.step hb1).step hbn, (hH.2.2.1.step hb1).step hbn, Box.new w1 [.int .i64 k, .int .i64 q, .int .i64 E, .int .i64 n, .int .i64 err] 77, bth5 (bth5 hH.2.2.2.1 hb1) hbn⟩, by omega⟩
  clear q1 hb1 hs1 hbn hH
  go_wp2_with fail
  generalize w1.alloc (.cells #[.int .i64 k, .int .i64 q, .int .i64 E, .int .i64 n, .int .i64 err] 77) = W1 at *
  generalize w1.heap.size = gp at *
  obtain ⟨a0, a1⟩ := hk.out.1.a.two
  have p1 := (hk.out.1.p 1 _ rfl).1
  go_still_tail 6, (by kernel_rfl)
  change wpList _ _ _ _ _ W1.drew
  have hk := Lib.hid (And.intro (hk.out.1.step (Below.refl _ _).drew) hk.out.2)
  clear a0 a1 p1
  go_wp2_with fail
  refine (q2 _).mono ?_
  rintro e w4 ⟨rfl, hb4⟩
  have hk4 := And.intro (hk.out.1.step hb4) hk.out.2
  have hka : KA w w.heap.size (w.heap.size + 1) (w.heap.size + 1 + 1) gp [.int .i64 l2, .int .i64 c2] [.int .i64 k, .int .i64 q, .int .i64 E, .int .i64 n, .int .i64 err] ((w4.setCell ⟨w.heap.size, 0, none⟩ (.int .i64 l2)).setCell ⟨w.heap.size, 1, none⟩ (.int .i64 c2)) :=
    (hk4.1.setA (by omega) (by omega) (by omega) (Nat.le_refl _) 0 _).setA (by omega) (by omega) (by omega) (Nat.le_refl _) 1 _
  have hKA := Lib.hid (And.intro hka hk4.2)
  obtain ⟨a0, a1⟩ := hk4.1.a.two
  have z0 := (hk4.1.a 0 _ rfl).2
  have z1 := (hk4.1.a 1 _ rfl).2
  obtain ⟨p0, p1, p2, p3, p4⟩ := hk4.1.p.five5
  have m1 : ¬ w.heap.size = gp := by omega
  have m2 : ¬ gp = w.heap.size := by omega
  clear hk hk4 hb4 hka q2
  by_cases he : err = 0
  · have hV : Hid (nextP s.data.toList p = (⟨k, (s.data.toList.drop q).take (E - q), n, l2, c2⟩, E, 0, 0, 0)) := HV.out.trans (if_pos he)
    subst he
    clear HV
    go_wp2_with fail
    refine (q3 _).mono ?_
    rintro e w5 ⟨rfl, hb5⟩
    have hk5 := Lib.hid (And.intro (hKA.out.1.step hb5) hKA.out.2)
    clear hKA hb5 q3 a0 a1 z0 z1 p0 p1 p2 p3 p4 m1 m2
    go_wp2_with fail
    have m1 : w.heap.size + 1 ≠ w.heap.size := by omega
    have m2 : w.heap.size + 1 ≠ gp := by have := hk5.out.2; omega
    have m3 : w.heap.size + 1 + 1 ≠ w.heap.size := by omega
    have m4 : w.heap.size + 1 + 1 ≠ gp := by have := hk5.out.2; omega
    have hA := hk5.out.1.a
    have hP := hk5.out.1.p
    obtain ⟨t0, t1, t2, t3, t4⟩ := hk5.out.1.t.five5
    obtain ⟨y0, y1, y2, y3, y4⟩ := hk5.out.1.t.frz5
    obtain ⟨f0, f1, f2⟩ := hk5.out.1.f.three
    have x0 := (hk5.out.1.f 0 _ rfl).2
    have x1 := (hk5.out.1.f 1 _ rfl).2
    have x2 := (hk5.out.1.f 2 _ rfl).2
    have s0 := sB hA.drew hP.drew
    have hbw := Lib.hid hk5.out.1.below
    go_region_held3 (fun w' => w'.cell? ⟨w.heap.size, 0, none⟩ = some (.int .i64 l2) ∧ w'.cell? ⟨w.heap.size, 1, none⟩ = some (.int .i64 c2) ∧ w'.cell? ⟨gp, 0, none⟩ = some (.int .i64 k) ∧ w'.cell? ⟨gp, 2, none⟩ = some (.int .i64 E) ∧ w'.cell? ⟨gp, 3, none⟩ = some (.int .i64 n)) (first | with_reducible exact s0 | with_reducible exact sB (hA.far5 m1 _ _ _ _ _).drew (hP.far5 m2 _ _ _ _ _).drew | with_reducible exact sB ((hA.far5 m1 _ _ _ _ _).far3 m3 _ _ _).drew ((hP.far5 m2 _ _ _ _ _).far3 m4 _ _ _).drew)
      (fail)
    all_goals
      (go_wp2_with fail
       refine bodyPost_ret (v := .tuple #[.agg #[.int .i64 k, .string xs, .int .i64 n, .int .i64 l2, .int .i64 c2], .int .i64 E, .agg #[.int .i64 0, .int .i64 0, .int .i64 0]]) (by simp [results, Tryd.results25, go_sem, t0, t1, t2, t3, t4, f0, f1, f2]) rfl ?_
       rw [hV.out]
       refine ⟨?_, ((((((((hbw.out.setCell (Nat.le_succ _) _).setCell (Nat.le_succ _) _).setCell (Nat.le_succ _) _).setCell (Nat.le_succ _) _).setCell (Nat.le_succ _) _).setCell (show w.heap.size ≤ w.heap.size + 1 + 1 by omega) _).setCell (show w.heap.size ≤ w.heap.size + 1 + 1 by omega) _).setCell (show w.heap.size ≤ w.heap.size + 1 + 1 by omega) _).drew⟩
       unfold nextA TokV.cells
       simp [HX.out])
  · have hV : Hid (nextP s.data.toList p = (TokV.none, q, l2, c2, err)) := HV.out.trans (if_neg he)
    clear HV
    go_wp2_with fail
    generalize (w4.setCell ⟨w.heap.size, 0, none⟩ (.int .i64 l2)).setCell ⟨w.heap.size, 1, none⟩ (.int .i64 c2) = w5 at *
    clear q3 a0 a1 z0 z1 p0 p1 p2 p3 p4 m1 m2
    have m1 : w.heap.size + 1 ≠ w.heap.size := by omega
    have m2 : w.heap.size + 1 ≠ gp := by have := hKA.out.2; omega
    have m3 : w.heap.size + 1 + 1 ≠ w.heap.size := by omega
    have m4 : w.heap.size + 1 + 1 ≠ gp := by have := hKA.out.2; omega
    have hA := hKA.out.1.a
    have hP := hKA.out.1.p
    obtain ⟨t0, t1, t2, t3, t4⟩ := hKA.out.1.t.five5
    obtain ⟨y0, y1, y2, y3, y4⟩ := hKA.out.1.t.frz5
    obtain ⟨f0, f1, f2⟩ := hKA.out.1.f.three
    have x0 := (hKA.out.1.f 0 _ rfl).2
    have x1 := (hKA.out.1.f 1 _ rfl).2
    have x2 := (hKA.out.1.f 2 _ rfl).2
    have s0 := sA hA.drew hP.drew
    have hbw := Lib.hid hKA.out.1.below
    go_region_held3 (fun w' => w'.cell? ⟨w.heap.size, 0, none⟩ = some (.int .i64 l2) ∧ w'.cell? ⟨w.heap.size, 1, none⟩ = some (.int .i64 c2) ∧ w'.cell? ⟨gp, 1, none⟩ = some (.int .i64 q) ∧ w'.cell? ⟨gp, 4, none⟩ = some (.int .i64 err)) (first | with_reducible exact s0 | with_reducible exact sA (hA.far5 m1 _ _ _ _ _).drew (hP.far5 m2 _ _ _ _ _).drew | with_reducible exact sA ((hA.far5 m1 _ _ _ _ _).far3 m3 _ _ _).drew ((hP.far5 m2 _ _ _ _ _).far3 m4 _ _ _).drew)
      (fail)
    all_goals
      (go_wp2_with fail
       refine bodyPost_ret (v := .tuple #[.agg #[.int .i64 0, .string ⟨#[]⟩, .int .i64 0, .int .i64 0, .int .i64 0], .int .i64 q, .agg #[.int .i64 l2, .int .i64 c2, .int .i64 err]]) (by simp [results, Tryd.results25, go_sem, t0, t1, t2, t3, t4, f0, f1, f2]) rfl ?_
       rw [hV.out]
       exact ⟨rfl, ((((((((hbw.out.setCell (Nat.le_succ _) _).setCell (Nat.le_succ _) _).setCell (Nat.le_succ _) _).setCell (Nat.le_succ _) _).setCell (Nat.le_succ _) _).setCell (show w.heap.size ≤ w.heap.size + 1 + 1 by omega) _).setCell (show w.heap.size ≤ w.heap.size + 1 + 1 by omega) _).setCell (show w.heap.size ≤ w.heap.size + 1 + 1 by omega) _).drew⟩)
end Go.Proofs.YthlpldmodflmjaaDoor
