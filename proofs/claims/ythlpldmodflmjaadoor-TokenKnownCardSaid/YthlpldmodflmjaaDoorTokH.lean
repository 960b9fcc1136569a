/- Boxes of any cells; what Next answers; the reference's Next of layer 5. -/
import Derived.Test.YthlpldmodflmjaaDoorTokG
import Derived.Deep.RegionHeld3
namespace Go.Proofs.YthlpldmodflmjaaDoor
open Go.RowKit

/-- A box: its cells, that may be written. -/
def Box (W : World) (g : Nat) (vs : List Value) : Prop := ∀ i v, vs[i]? = some v → W.cell? ⟨g, i, none⟩ = some v ∧ W.frozen? ⟨g, i, none⟩ = false
theorem Box.step {W W' : World} {g : Nat} {vs : List Value} (h : Box W g vs) (hb : Below W.heap.size W W') : Box W' g vs := fun i v hv => by
  obtain ⟨h1, h2⟩ := h i v hv
  have hlt := World.block_lt_of_cell? W ⟨g, i, none⟩ h1
  exact ⟨(hb.cell (p := ⟨g, i, none⟩) hlt).trans h1, (hb.frozen (p := ⟨g, i, none⟩) hlt).trans h2⟩
theorem Box.new (W : World) (vs : List Value) (T : TypeId) : Box (W.alloc (.cells vs.toArray T)) W.heap.size vs := fun i v hv => by
  refine ⟨?_, by simp [go_sem]⟩
  rw [cell_of_row _ _ i vs.toArray T (0, 0) (heap_alloc_new W _)]
  simpa using hv
theorem Box.set {W : World} {g : Nat} {vs : List Value} (h : Box W g vs) (j : Nat) (u : Value) : Box (W.setCell ⟨g, j, none⟩ u) g (vs.set j u) := fun i v hv => by
  have hi := (List.getElem?_eq_some_iff.1 hv).1
  rw [List.length_set] at hi
  obtain ⟨h1, h2⟩ := h i vs[i] (List.getElem?_eq_getElem hi)
  refine ⟨?_, by simpa using h2⟩
  by_cases e : i = j
  · subst e
    rw [List.getElem?_set_self hi] at hv
    injection hv with hv
    rw [← hv]
    exact World.cell?_setCell_same _ _ _ h1
  · rw [List.getElem?_set_ne (fun e2 => e e2.symm)] at hv
    rw [List.getElem?_eq_getElem hi] at hv
    rw [World.cell?_setCell_other _ _ _ _ (fun e2 => by injection e2; omega), h1, hv]
theorem Box.far {W : World} {g : Nat} {vs : List Value} (h : Box W g vs) {p : Addr} (hp : p.block ≠ g) (u : Value) : Box (W.setCell p u) g vs := fun i v hv => by
  obtain ⟨h1, h2⟩ := h i v hv
  exact ⟨(World.cell?_setCell_other _ _ _ _ (fun e => hp (by rw [e]))).trans h1, by simpa using h2⟩
theorem Box.far5 {W : World} {g b : Nat} {vs : List Value} (h : Box W g vs) (hp : b ≠ g) (v0 v1 v2 v3 v4 : Value) : Box (((((W.setCell ⟨b, 0, none⟩ v0).setCell ⟨b, 1, none⟩ v1).setCell ⟨b, 2, none⟩ v2).setCell ⟨b, 3, none⟩ v3).setCell ⟨b, 4, none⟩ v4) g vs :=
  ((((h.far hp _).far hp _).far hp _).far hp _).far hp _
theorem Box.far3 {W : World} {g b : Nat} {vs : List Value} (h : Box W g vs) (hp : b ≠ g) (v0 v1 v2 : Value) : Box (((W.setCell ⟨b, 0, none⟩ v0).setCell ⟨b, 1, none⟩ v1).setCell ⟨b, 2, none⟩ v2) g vs :=
  ((h.far hp _).far hp _).far hp _
theorem Box.two {W : World} {g : Nat} {a b : Value} {vs : List Value} (h : Box W g (a :: b :: vs)) : W.cell? ⟨g, 0, none⟩ = some a ∧ W.cell? ⟨g, 1, none⟩ = some b := ⟨(h 0 _ rfl).1, (h 1 _ rfl).1⟩
theorem Box.three {W : World} {g : Nat} {a b c : Value} {vs : List Value} (h : Box W g (a :: b :: c :: vs)) : W.cell? ⟨g, 0, none⟩ = some a ∧ W.cell? ⟨g, 1, none⟩ = some b ∧ W.cell? ⟨g, 2, none⟩ = some c := ⟨(h 0 _ rfl).1, (h 1 _ rfl).1, (h 2 _ rfl).1⟩
theorem Box.drew {W : World} {g : Nat} {vs : List Value} (h : Box W g vs) : Box W.drew g vs := h.step (Below.refl _ _).drew
theorem Box.lt {W : World} {g : Nat} {vs : List Value} (h : Box W g vs) (h0 : vs ≠ []) : g < W.heap.size := by
  cases vs with
  | nil => exact absurd rfl h0
  | cons v r => exact World.block_lt_of_cell? W ⟨g, 0, none⟩ (h 0 v rfl).1
theorem bnew5 (W : World) (o : Obj) : Below W.heap.size W (W.alloc o) := (Below.refl _ _).alloc (Nat.le_refl _) o
theorem bth5 {w W W' : World} (h : Below w.heap.size w W) (hb : Below W.heap.size W W') : Below w.heap.size w W' := h.trans (hb.mono h.size)

/-- A token: its kind, text, number, line and column. -/
structure TokV where
  k : Int
  x : List UInt8
  n : Int
  l : Int
  c : Int
def TokV.none : TokV := ⟨0, [], 0, 0, 0⟩
def TokV.cells (t : TokV) : List Value := [.int .i64 t.k, .string ⟨t.x.toArray⟩, .int .i64 t.n, .int .i64 t.l, .int .i64 t.c]
/-- What a text gives from a place on: a token, the place behind, and a fault. -/
def errV (n k : Nat) (x : List UInt8) : Int := if n = 0 then 50 else if k = 0 ∧ 32 < n then 52 else if k = 1 ∧ (numV x).2 = false then 51 else 0
def nextQ (L : List UInt8) (q : Nat) : TokV × Nat × Int × Int × Int :=
  if q = L.length then (⟨3, [], 0, ((spot L q).1 : Nat), ((spot L q).2 : Nat)⟩, q, 0, 0, 0) else
    let nk := longL (L.drop q)
    let x := (L.drop q).take nk.1
    if errV nk.1 nk.2 x = 0 then (⟨(nk.2 : Nat), x, if nk.2 = 1 then (numV x).1 else 0, ((spot L q).1 : Nat), ((spot L q).2 : Nat)⟩, q + nk.1, 0, 0, 0)
    else (TokV.none, q, ((spot L q).1 : Nat), ((spot L q).2 : Nat), errV nk.1 nk.2 x)
def nextP (L : List UInt8) (p : Nat) : TokV × Nat × Int × Int × Int := nextQ L (p + skipL (L.drop p) false)
def clampP (L : List UInt8) (z : Int) : Nat := (max 0 (min z L.length)).toNat
def nextV (L : List UInt8) (z : Int) : TokV × Nat × Int × Int × Int := nextP L (clampP L z)
/-- The answer's value. -/
def nextA (r : TokV × Nat × Int × Int × Int) : Value := .tuple #[.agg r.1.cells.toArray, .int .i64 (r.2.1 : Nat), .agg #[.int .i64 r.2.2.1, .int .i64 r.2.2.2.1, .int .i64 r.2.2.2.2]]

theorem longF_le (f : Nat) (l : List UInt8) (i : Nat) (b : Nat × Nat) (h : b.1 ≤ l.length) : (longF f l i b).1 ≤ l.length := by
  induction f generalizing i b with
  | zero => exact h
  | succ f ih =>
    unfold longF
    split
    · exact h
    · split
      · exact ih _ _ (by simp; omega)
      · split
        · exact h
        · exact ih _ _ h
theorem longL_le (l : List UInt8) : (longL l).1 ≤ l.length := longF_le _ _ _ _ (Nat.zero_le _)
theorem longF_kind (f : Nat) (l : List UInt8) (i : Nat) (b : Nat × Nat) (h : b.2 ≤ 2) : (longF f l i b).2 ≤ 2 := by
  induction f generalizing i b with
  | zero => exact h
  | succ f ih =>
    unfold longF
    split
    · exact h
    · split
      · rename_i k hk
        refine ih _ _ ?_
        unfold kindOf at hk
        show k ≤ 2
        repeat' split at hk
        all_goals first | (injection hk with hk; omega) | cases hk
      · split
        · exact h
        · exact ih _ _ h
theorem longL_kind (l : List UInt8) : (longL l).2 ≤ 2 := longF_kind _ _ _ _ (by decide)
theorem skip_le (L : List UInt8) (p : Nat) (hp : p ≤ L.length) : p + skipL (L.drop p) false ≤ L.length := by
  have := skipL_le (L.drop p) false
  rw [List.length_drop] at this
  omega
theorem clampP_le (L : List UInt8) (z : Int) : clampP L z ≤ L.length := by unfold clampP; omega

set_option maxHeartbeats 4000000 in
theorem refNext (s : ByteArray) (z : Int) (hs : s.size ≤ 100000) (w : World) : Calls Tryd.prog 10 #[.string s, .int .i64 z] w fun e w' => e = .returned (nextA (nextV s.data.toList z)) ∧ Below w.heap.size w w' := by
  have hl := size_len_ s
  obtain ⟨p, hp⟩ : ∃ p, p = clampP s.data.toList z := ⟨_, rfl⟩
  have hple : p ≤ s.size := by rw [hp, ← hl]; exact clampP_le _ _
  have hmx : max (0 : Int) (min z s.size) = p := by rw [hp]; unfold clampP; rw [hl]; omega
  obtain ⟨q, hq⟩ : ∃ q, q = p + skipL (s.data.toList.drop p) false := ⟨_, rfl⟩
  have hqle : q ≤ s.size := by rw [hq, ← hl]; exact skip_le _ _ (by omega)
  have hV : nextV s.data.toList z = nextQ s.data.toList q := by unfold nextV nextP; rw [← hp, ← hq]
  rw [hV]
  have q1 := fun w => refSkip s p hple hs w
  rw [← hq] at q1
  have q2 := fun w => refPosOf_yes s q hqle hs w
  clear hV hp hq
  have hr0 := (Box.new w [.int .i64 0, .string ⟨#[]⟩, .int .i64 0, .int .i64 0, .int .i64 0] 40).step (bnew5 _ (.cells #[.int .i64 0, .int .i64 0, .int .i64 0] 28))
  have hr1 := Box.new (w.alloc (.cells #[.int .i64 0, .string ⟨#[]⟩, .int .i64 0, .int .i64 0, .int .i64 0] 40)) [.int .i64 0, .int .i64 0, .int .i64 0] 28
  have hb0 := bth5 (bnew5 w (.cells #[.int .i64 0, .string ⟨#[]⟩, .int .i64 0, .int .i64 0, .int .i64 0] 40)) (bnew5 _ (.cells #[.int .i64 0, .int .i64 0, .int .i64 0] 28))
  rw [show (w.alloc (.cells #[.int .i64 0, .string ⟨#[]⟩, .int .i64 0, .int .i64 0, .int .i64 0] 40)).heap.size = w.heap.size + 1 by simp] at hr1
  obtain ⟨u, hu⟩ : ∃ u, (if (s.size : Int) < z then (s.size : Int) else z) = u := ⟨_, rfl⟩
  have hu2 : (if 0 < u then u else 0) = (p : Int) := by
    rw [← hmx, ← hu]
    split <;> split <;> omega
  clear hmx hple
  go_enter Tryd.func10, Tryd.ntmps10
  go_wp2_with fail
  refine (q1 _).mono ?_
  rintro e w1 ⟨rfl, rfl⟩
  clear q1 hu hu2
  go_wp2_with fail
  refine (q2 _).mono ?_
  rintro e w2 ⟨rfl, hb2⟩
  obtain ⟨l, c, hlc⟩ : ∃ l c : Int, ((spot s.data.toList q).1 : Nat) = l ∧ ((spot s.data.toList q).2 : Nat) = c := ⟨_, _, rfl, rfl⟩
  have HLC := Lib.hid hlc
  rw [hlc.1, hlc.2]
  clear q2 hlc
  have hr0 := (hr0.step hb2).step (bnew5 w2 (.cells #[.int .i64 l, .int .i64 c] 25))
  have hr1 := (hr1.step hb2).step (bnew5 w2 (.cells #[.int .i64 l, .int .i64 c] 25))
  have hbw := bth5 (bth5 hb0 hb2) (bnew5 w2 (.cells #[.int .i64 l, .int .i64 c] 25))
  have ha := Box.new w2 [.int .i64 l, .int .i64 c] 25
  have hga0 : w.heap.size + 2 ≤ w2.heap.size := by
    have := hb2.size
    simpa using this
  clear hb0 hb2
  by_cases hend : q = s.size
  · have hend' : (q : Int) = s.size := by omega
    have hV : Hid (nextQ s.data.toList q = (⟨3, [], 0, l, c⟩, q, 0, 0, 0)) := by
      show nextQ s.data.toList q = _
      unfold nextQ
      rw [if_pos (by omega), HLC.out.1, HLC.out.2]
    have a0 := (ha 0 _ rfl).1
    have a1 := (ha 1 _ rfl).1
    have c0 := (hr0 0 _ rfl).1
    have c1 := (hr0 1 _ rfl).1
    have c2 := (hr0 2 _ rfl).1
    have c3 := (hr0 3 _ rfl).1
    have c4 := (hr0 4 _ rfl).1
    have f0 := (hr0 0 _ rfl).2
    have f1 := (hr0 1 _ rfl).2
    have f2 := (hr0 2 _ rfl).2
    have f3 := (hr0 3 _ rfl).2
    have f4 := (hr0 4 _ rfl).2
    have d0 := (hr1 0 _ rfl).1
    have d1 := (hr1 1 _ rfl).1
    have d2 := (hr1 2 _ rfl).1
    have g0 := (hr1 0 _ rfl).2
    have g1 := (hr1 1 _ rfl).2
    have g2 := (hr1 2 _ rfl).2
    clear hr0 hr1 ha hend
    go_wp2_with fail
    refine bodyPost_ret (v := .tuple #[.agg #[.int .i64 3, .string ⟨#[]⟩, .int .i64 0, .int .i64 l, .int .i64 c], .int .i64 s.size, .agg #[.int .i64 0, .int .i64 0, .int .i64 0]]) (by simp [results, Tryd.results10, go_sem, c0, c1, c2, c3, c4, d0, d1, d2]) rfl ?_
    rw [hV.out]
    refine ⟨?_, ?_⟩
    · unfold nextA TokV.cells
      simp [hend']
    · exact (((((((hbw.setCell (Nat.le_refl _) _).setCell (Nat.le_refl _) _).setCell (Nat.le_refl _) _).setCell (Nat.le_refl _) _).setCell (Nat.le_refl _) _).setCell (Nat.le_succ _) _).setCell (Nat.le_succ _) _).setCell (Nat.le_succ _) _
  · have hqlt : q < s.size := by omega
    have hend' : ¬ (q : Int) = s.size := by omega
    have hq0 : (0 : Int) ≤ q := by omega
    have hqs : (q : Int) ≤ s.size := by omega
    have hdr : (s.extract q s.size).data.toList = s.data.toList.drop q := by
      rw [extract_span5]
      unfold span
      rw [List.take_of_length_le (by omega)]
    have q3 := fun w => refLongest (s.extract q s.size) (by simp; omega) w
    rw [hdr] at q3
    obtain ⟨n, k, hnk⟩ : ∃ n k, longL (s.data.toList.drop q) = (n, k) := ⟨_, _, rfl⟩
    have hn : q + n ≤ s.size := by
      have := longL_le (s.data.toList.drop q)
      rw [hnk, List.length_drop, hl] at this
      simp only at this
      omega
    have hk : k ≤ 2 := by
      have := longL_kind (s.data.toList.drop q)
      rw [hnk] at this
      exact this
    rw [hnk] at q3
    simp only at q3
    have hx : (s.extract q (q + n)).data.toList = (s.data.toList.drop q).take n := by
      rw [extract_span5]
      unfold span
      rw [List.drop_take, show q + n - q = n by omega]
    have hxs : (s.extract q (q + n)).size ≤ 100000 := by simp; omega
    have q4 := fun w => refNumber (s.extract q (q + n)) hxs w
    rw [hx] at q4
    have hV : nextQ s.data.toList q = if errV n k ((s.data.toList.drop q).take n) = 0 then (⟨(k : Nat), (s.data.toList.drop q).take n, if k = 1 then (numV ((s.data.toList.drop q).take n)).1 else 0, l, c⟩, q + n, 0, 0, 0) else (TokV.none, q, l, c, errV n k ((s.data.toList.drop q).take n)) := by
      unfold nextQ
      rw [if_neg (by omega), hnk]
      simp only
      rw [HLC.out.1, HLC.out.2]
    have HV := Lib.hid hV
    have HX := Lib.hid hx
    have hqn : IntKind.i64.wrap ((q : Int) + n) = (q : Int) + n := IntWalk.i64_in _ (by omega)
    have hqn1 : (q : Int) + n ≤ s.size := by omega
    have hqn0 : (q : Int) ≤ (q : Int) + n := by omega
    have hqn2 : (0 : Int) ≤ (q : Int) + n := by omega
    clear hV hx hdr hnk hxs
    generalize (s.data.toList.drop q).take n = x at *
    go_wp2_with fail
    refine (q3 _).mono ?_
    rintro e w3 ⟨rfl, hb3⟩
    have hr0 := hr0.step hb3
    have hr1 := hr1.step hb3
    have ha := ha.step hb3
    have hbw := bth5 hbw hb3
    clear q3 hb3
    go_wp2_with fail
    generalize w2.heap.size = ga at *
    generalize hxb : s.extract q (q + n) = xs at *
    have a0 := (ha 0 _ rfl).1
    have a1 := (ha 1 _ rfl).1
    have n1 := World.new_ne w3 _ a0
    have n2 := World.new_ne w3 _ a1
    go_region_held3 (fun w' => w'.cell? ⟨ga, 0, none⟩ = some (.int .i64 l) ∧ w'.cell? ⟨ga, 1, none⟩ = some (.int .i64 c)) (first | go_keep)
      (fail)
    rw [show ((q : Int) + (n : Int)).toNat = q + n by omega, hxb]
    have hbn := (bnew5 w3 (.cells #[.int .i64 k, .string xs, .int .i64 0, .int .i64 l, .int .i64 c] 40)).drew
    have hbx := (Box.new w3 [.int .i64 k, .string xs, .int .i64 0, .int .i64 l, .int .i64 c] 40).drew
    have hr0 := hr0.step hbn
    have hr1 := hr1.step hbn
    have ha := ha.step hbn
    have hbw := bth5 hbw hbn
    have hgt : ga < w3.heap.size := World.block_lt_of_cell? _ _ a0
    clear hbn a0 a1 n1 n2
    generalize (w3.alloc (.cells #[.int .i64 k, .string xs, .int .i64 0, .int .i64 l, .int .i64 c] 40)).drew = W5 at *
    generalize w3.heap.size = gt at *
    have m1 : w.heap.size ≠ ga := by omega
    have m2 : w.heap.size + 1 ≠ ga := by omega
    have HX5 : Hid ((⟨x.toArray⟩ : ByteArray) = xs) := by
      show _ = xs
      have := HX.out
      rw [← this]
      try simp
    by_cases hn0 : n = 0
    · have hn0 : (n : Int) = 0 := by omega
      have hV : Hid (nextQ s.data.toList q = (TokV.none, q, l, c, 50)) := by
        show nextQ s.data.toList q = _
        have he : errV n k x = 50 := by unfold errV; rw [if_pos (by omega)]
        rw [HV.out, he, if_neg (by decide)]
      clear hbx q4
      have c0 := (hr0 0 _ rfl).1
      have c1 := (hr0 1 _ rfl).1
      have c2 := (hr0 2 _ rfl).1
      have c3 := (hr0 3 _ rfl).1
      have c4 := (hr0 4 _ rfl).1
      have f0 := (hr0 0 _ rfl).2
      have f1 := (hr0 1 _ rfl).2
      have f2 := (hr0 2 _ rfl).2
      have f3 := (hr0 3 _ rfl).2
      have f4 := (hr0 4 _ rfl).2
      have d0 := (hr1 0 _ rfl).1
      have d1 := (hr1 1 _ rfl).1
      have d2 := (hr1 2 _ rfl).1
      have g0 := (hr1 0 _ rfl).2
      have g1 := (hr1 1 _ rfl).2
      have g2 := (hr1 2 _ rfl).2
      have s0 := ha.drew.two
      go_wp2_with fail
      go_region_held3 (fun w' => w'.cell? ⟨ga, 0, none⟩ = some (.int .i64 l) ∧ w'.cell? ⟨ga, 1, none⟩ = some (.int .i64 c)) (first | with_reducible exact s0 | with_reducible exact (ha.far5 m1 _ _ _ _ _).drew.two | with_reducible exact ((ha.far5 m1 _ _ _ _ _).far3 m2 _ _ _).drew.two)
        (fail)
      all_goals
        (go_wp2_with fail
         refine bodyPost_ret (v := .tuple #[.agg #[.int .i64 0, .string ⟨#[]⟩, .int .i64 0, .int .i64 0, .int .i64 0], .int .i64 q, .agg #[.int .i64 l, .int .i64 c, .int .i64 50]]) (by simp [results, Tryd.results10, go_sem, c0, c1, c2, c3, c4, d0, d1, d2]) rfl ?_
         rw [hV.out]
         exact ⟨rfl, ((((((((hbw.setCell (Nat.le_refl _) _).setCell (Nat.le_refl _) _).setCell (Nat.le_refl _) _).setCell (Nat.le_refl _) _).setCell (Nat.le_refl _) _).setCell (Nat.le_succ _) _).setCell (Nat.le_succ _) _).setCell (Nat.le_succ _) _).drew⟩)
    · have hn0' : ¬ (n : Int) = 0 := by omega
      by_cases hk0 : k = 0
      · have hk0' : (k : Int) = 0 := by omega
        by_cases h32 : 32 < n
        · have h32' : (32 : Int) < n := by omega
          have hV : Hid (nextQ s.data.toList q = (TokV.none, q, l, c, 52)) := by
            show nextQ s.data.toList q = _
            have he : errV n k x = 52 := by unfold errV; rw [if_neg hn0, if_pos ⟨hk0, h32⟩]
            rw [HV.out, he, if_neg (by decide)]
          clear hbx q4
          have c0 := (hr0 0 _ rfl).1
          have c1 := (hr0 1 _ rfl).1
          have c2 := (hr0 2 _ rfl).1
          have c3 := (hr0 3 _ rfl).1
          have c4 := (hr0 4 _ rfl).1
          have f0 := (hr0 0 _ rfl).2
          have f1 := (hr0 1 _ rfl).2
          have f2 := (hr0 2 _ rfl).2
          have f3 := (hr0 3 _ rfl).2
          have f4 := (hr0 4 _ rfl).2
          have d0 := (hr1 0 _ rfl).1
          have d1 := (hr1 1 _ rfl).1
          have d2 := (hr1 2 _ rfl).1
          have g0 := (hr1 0 _ rfl).2
          have g1 := (hr1 1 _ rfl).2
          have g2 := (hr1 2 _ rfl).2
          have s0 := ha.drew.two
          go_wp2_with fail
          go_region_held3 (fun w' => w'.cell? ⟨ga, 0, none⟩ = some (.int .i64 l) ∧ w'.cell? ⟨ga, 1, none⟩ = some (.int .i64 c)) (first | with_reducible exact s0 | with_reducible exact (ha.far5 m1 _ _ _ _ _).drew.two | with_reducible exact ((ha.far5 m1 _ _ _ _ _).far3 m2 _ _ _).drew.two)
            (fail)
          all_goals
            (go_wp2_with fail
             refine bodyPost_ret (v := .tuple #[.agg #[.int .i64 0, .string ⟨#[]⟩, .int .i64 0, .int .i64 0, .int .i64 0], .int .i64 q, .agg #[.int .i64 l, .int .i64 c, .int .i64 52]]) (by simp [results, Tryd.results10, go_sem, c0, c1, c2, c3, c4, d0, d1, d2]) rfl ?_
             rw [hV.out]
             exact ⟨rfl, ((((((((hbw.setCell (Nat.le_refl _) _).setCell (Nat.le_refl _) _).setCell (Nat.le_refl _) _).setCell (Nat.le_refl _) _).setCell (Nat.le_refl _) _).setCell (Nat.le_succ _) _).setCell (Nat.le_succ _) _).setCell (Nat.le_succ _) _).drew⟩)
        · have h32' : ¬ (32 : Int) < n := by omega
          have hV : Hid (nextQ s.data.toList q = (⟨(k : Nat), x, 0, l, c⟩, q + n, 0, 0, 0)) := by
            show nextQ s.data.toList q = _
            have he : errV n k x = 0 := by unfold errV; rw [if_neg hn0, if_neg (by omega), if_neg (by omega)]
            rw [HV.out, he, if_pos rfl, if_neg (by omega)]
          clear q4
          have c0 := (hr0 0 _ rfl).1
          have c1 := (hr0 1 _ rfl).1
          have c2 := (hr0 2 _ rfl).1
          have c3 := (hr0 3 _ rfl).1
          have c4 := (hr0 4 _ rfl).1
          have f0 := (hr0 0 _ rfl).2
          have f1 := (hr0 1 _ rfl).2
          have f2 := (hr0 2 _ rfl).2
          have f3 := (hr0 3 _ rfl).2
          have f4 := (hr0 4 _ rfl).2
          have d0 := (hr1 0 _ rfl).1
          have d1 := (hr1 1 _ rfl).1
          have d2 := (hr1 2 _ rfl).1
          have g0 := (hr1 0 _ rfl).2
          have g1 := (hr1 1 _ rfl).2
          have g2 := (hr1 2 _ rfl).2
          have e0 := (hbx 0 _ rfl).1
          have e1 := (hbx 1 _ rfl).1
          have e2 := (hbx 2 _ rfl).1
          have e3 := (hbx 3 _ rfl).1
          have e4 := (hbx 4 _ rfl).1
          go_wp2_with fail
          refine bodyPost_ret (v := .tuple #[.agg #[.int .i64 0, .string xs, .int .i64 0, .int .i64 l, .int .i64 c], .int .i64 ((q : Int) + n), .agg #[.int .i64 0, .int .i64 0, .int .i64 0]]) (by simp [results, Tryd.results10, go_sem, c0, c1, c2, c3, c4, d0, d1, d2]) rfl ?_
          rw [hV.out]
          refine ⟨?_, (((((((hbw.setCell (Nat.le_refl _) _).setCell (Nat.le_refl _) _).setCell (Nat.le_refl _) _).setCell (Nat.le_refl _) _).setCell (Nat.le_refl _) _).setCell (Nat.le_succ _) _).setCell (Nat.le_succ _) _).setCell (Nat.le_succ _) _⟩
          unfold nextA TokV.cells
          simp [HX5.out, hk0]
      · have hk0' : ¬ (k : Int) = 0 := by omega
        by_cases hk1 : k = 1
        · have hk1' : (k : Int) = 1 := by omega
          have e0 := (hbx 0 _ rfl).1
          have e1 := (hbx 1 _ rfl).1
          have e2 := (hbx 2 _ rfl).1
          have e3 := (hbx 3 _ rfl).1
          have e4 := (hbx 4 _ rfl).1
          have h0 := (hbx 0 _ rfl).2
          have h1 := (hbx 1 _ rfl).2
          have h2 := (hbx 2 _ rfl).2
          have h3 := (hbx 3 _ rfl).2
          have h4 := (hbx 4 _ rfl).2
          go_wp2_with fail
          refine (q4 _).mono ?_
          rintro e w6 ⟨rfl, rfl⟩
          clear q4 e0 e1 e2 e3 e4
          obtain ⟨N, ok, hN⟩ : ∃ N ok, numV x = (N, ok) := ⟨_, _, rfl⟩
          have HN := Lib.hid hN
          rw [hN]
          simp only
          clear hN
          have hbx2 := hbx.set 2 (.int .i64 N)
          have ha2 := ha.far (p := ⟨gt, 2, none⟩) (by show gt ≠ ga; omega) (.int .i64 N)
          have hr02 := hr0.far (p := ⟨gt, 2, none⟩) (by show gt ≠ w.heap.size; omega) (.int .i64 N)
          have hr12 := hr1.far (p := ⟨gt, 2, none⟩) (by show gt ≠ w.heap.size + 1; omega) (.int .i64 N)
          have hbw2 : Below w.heap.size w (w6.setCell ⟨gt, 2, none⟩ (.int .i64 N)) := hbw.setCell (show w.heap.size ≤ gt by omega) _
          have e2 := (hbx 2 _ rfl).1
          cases ok with
          | false =>
            have hV : Hid (nextQ s.data.toList q = (TokV.none, q, l, c, 51)) := by
              show nextQ s.data.toList q = _
              have he : errV n k x = 51 := by unfold errV; rw [if_neg hn0, if_neg (by omega), if_pos ⟨hk1, by rw [HN.out]⟩]
              rw [HV.out, he, if_neg (by decide)]
            have h2 := (hbx 2 _ rfl).2
            clear hbx hbx2 hr0 hr1 ha hbw
            go_wp2_with fail
            generalize w6.setCell ⟨gt, 2, none⟩ (.int .i64 N) = W7 at *
            have c0 := (hr02 0 _ rfl).1
            have c1 := (hr02 1 _ rfl).1
            have c2 := (hr02 2 _ rfl).1
            have c3 := (hr02 3 _ rfl).1
            have c4 := (hr02 4 _ rfl).1
            have f0 := (hr02 0 _ rfl).2
            have f1 := (hr02 1 _ rfl).2
            have f2 := (hr02 2 _ rfl).2
            have f3 := (hr02 3 _ rfl).2
            have f4 := (hr02 4 _ rfl).2
            have d0 := (hr12 0 _ rfl).1
            have d1 := (hr12 1 _ rfl).1
            have d2 := (hr12 2 _ rfl).1
            have g0 := (hr12 0 _ rfl).2
            have g1 := (hr12 1 _ rfl).2
            have g2 := (hr12 2 _ rfl).2
            have s0   := ha2.drew.two
            go_region_held3 (fun w' => w'.cell? ⟨ga, 0, none⟩ = some (.int .i64 l) ∧ w'.cell? ⟨ga, 1, none⟩ = some (.int .i64 c)) (first | with_reducible exact s0 | with_reducible exact (ha2.far5 m1 _ _ _ _ _).drew.two | with_reducible exact ((ha2.far5 m1 _ _ _ _ _).far3 m2 _ _ _).drew.two)
              (fail)
            all_goals
              (go_wp2_with fail
               refine bodyPost_ret (v := .tuple #[.agg #[.int .i64 0, .string ⟨#[]⟩, .int .i64 0, .int .i64 0, .int .i64 0], .int .i64 q, .agg #[.int .i64 l, .int .i64 c, .int .i64 51]]) (by simp [results, Tryd.results10, go_sem, c0, c1, c2, c3, c4, d0, d1, d2]) rfl ?_
               rw [hV.out]
               exact ⟨rfl, ((((((((hbw2.setCell (Nat.le_refl _) _).setCell (Nat.le_refl _) _).setCell (Nat.le_refl _) _).setCell (Nat.le_refl _) _).setCell (Nat.le_refl _) _).setCell (Nat.le_succ _) _).setCell (Nat.le_succ _) _).setCell (Nat.le_succ _) _).drew⟩)
          | true =>
            have hV : Hid (nextQ s.data.toList q = (⟨(k : Nat), x, N, l, c⟩, q + n, 0, 0, 0)) := by
              show nextQ s.data.toList q = _
              have he : errV n k x = 0 := by unfold errV; rw [if_neg hn0, if_neg (by omega), if_neg (by rw [HN.out]; simp)]
              rw [HV.out, he, if_pos rfl, if_pos hk1, HN.out]
            have h2 := (hbx 2 _ rfl).2
            clear hbx hr0 hr1 ha hbw
            have c0 := (hr02 0 _ rfl).1
            have c1 := (hr02 1 _ rfl).1
            have c2 := (hr02 2 _ rfl).1
            have c3 := (hr02 3 _ rfl).1
            have c4 := (hr02 4 _ rfl).1
            have f0 := (hr02 0 _ rfl).2
            have f1 := (hr02 1 _ rfl).2
            have f2 := (hr02 2 _ rfl).2
            have f3 := (hr02 3 _ rfl).2
            have f4 := (hr02 4 _ rfl).2
            have d0 := (hr12 0 _ rfl).1
            have d1 := (hr12 1 _ rfl).1
            have d2 := (hr12 2 _ rfl).1
            have g0 := (hr12 0 _ rfl).2
            have g1 := (hr12 1 _ rfl).2
            have g2 := (hr12 2 _ rfl).2
            have e0 := (hbx2 0 _ rfl).1
            have e1 := (hbx2 1 _ rfl).1
            have e2 := (hbx2 2 _ rfl).1
            have e3 := (hbx2 3 _ rfl).1
            have e4 := (hbx2 4 _ rfl).1
            go_wp2_with fail
            refine bodyPost_ret (v := .tuple #[.agg #[.int .i64 1, .string xs, .int .i64 N, .int .i64 l, .int .i64 c], .int .i64 ((q : Int) + n), .agg #[.int .i64 0, .int .i64 0, .int .i64 0]]) (by simp [results, Tryd.results10, go_sem, c0, c1, c2, c3, c4, d0, d1, d2]) rfl ?_
            rw [hV.out]
            refine ⟨?_, (((((((hbw2.setCell (Nat.le_refl _) _).setCell (Nat.le_refl _) _).setCell (Nat.le_refl _) _).setCell (Nat.le_refl _) _).setCell (Nat.le_refl _) _).setCell (Nat.le_succ _) _).setCell (Nat.le_succ _) _).setCell (Nat.le_succ _) _⟩
            unfold nextA TokV.cells
            simp [HX5.out, hk1]
        · have hk1' : ¬ (k : Int) = 1 := by omega
          have hV : Hid (nextQ s.data.toList q = (⟨(k : Nat), x, 0, l, c⟩, q + n, 0, 0, 0)) := by
            show nextQ s.data.toList q = _
            have he : errV n k x = 0 := by unfold errV; rw [if_neg hn0, if_neg (by omega), if_neg (by omega)]
            rw [HV.out, he, if_pos rfl, if_neg hk1]
          clear q4
          have c0 := (hr0 0 _ rfl).1
          have c1 := (hr0 1 _ rfl).1
          have c2 := (hr0 2 _ rfl).1
          have c3 := (hr0 3 _ rfl).1
          have c4 := (hr0 4 _ rfl).1
          have f0 := (hr0 0 _ rfl).2
          have f1 := (hr0 1 _ rfl).2
          have f2 := (hr0 2 _ rfl).2
          have f3 := (hr0 3 _ rfl).2
          have f4 := (hr0 4 _ rfl).2
          have d0 := (hr1 0 _ rfl).1
          have d1 := (hr1 1 _ rfl).1
          have d2 := (hr1 2 _ rfl).1
          have g0 := (hr1 0 _ rfl).2
          have g1 := (hr1 1 _ rfl).2
          have g2 := (hr1 2 _ rfl).2
          have e0 := (hbx 0 _ rfl).1
          have e1 := (hbx 1 _ rfl).1
          have e2 := (hbx 2 _ rfl).1
          have e3 := (hbx 3 _ rfl).1
          have e4 := (hbx 4 _ rfl).1
          go_wp2_with fail
          refine bodyPost_ret (v := .tuple #[.agg #[.int .i64 k, .string xs, .int .i64 0, .int .i64 l, .int .i64 c], .int .i64 ((q : Int) + n), .agg #[.int .i64 0, .int .i64 0, .int .i64 0]]) (by simp [results, Tryd.results10, go_sem, c0, c1, c2, c3, c4, d0, d1, d2]) rfl ?_
          rw [hV.out]
          refine ⟨?_, (((((((hbw.setCell (Nat.le_refl _) _).setCell (Nat.le_refl _) _).setCell (Nat.le_refl _) _).setCell (Nat.le_refl _) _).setCell (Nat.le_refl _) _).setCell (Nat.le_succ _) _).setCell (Nat.le_succ _) _).setCell (Nat.le_succ _) _⟩
          unfold nextA TokV.cells
          simp [HX5.out]
end Go.Proofs.YthlpldmodflmjaaDoor
