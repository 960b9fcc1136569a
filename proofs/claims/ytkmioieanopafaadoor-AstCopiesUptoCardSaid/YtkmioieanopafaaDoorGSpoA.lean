/- Trees written over: what is kept (no program in it). The docs' SpoilStmts. The docs' SpoilProgram. -/
import Derived.Test.YtkmioieanopafaaDoorGCopA
namespace Go.Proofs.YtkmioieanopafaaDoor
section
open Go.RowKit

/-- Only blocks from lo on, below hi, have been written; none is new. -/
structure Wr (lo hi : Nat) (W W' : World) : Prop where
  b : Below lo W W'
  z : W'.heap.size = W.heap.size
  a : ∀ i, hi ≤ i → W'.heap[i]? = W.heap[i]?
theorem Wr.refl (lo hi : Nat) (W : World) (h : lo ≤ W.heap.size) : Wr lo hi W W := ⟨(Below.refl W.heap.size W).mono h, rfl, fun _ _ => rfl⟩
theorem Wr.trans {lo hi : Nat} {A B C : World} (h : Wr lo hi A B) (k : Wr lo hi B C) : Wr lo hi A C := ⟨h.b.trans k.b, k.z.trans h.z, fun i hi => (k.a i hi).trans (h.a i hi)⟩
theorem Wr.mono {lo hi lo' hi' : Nat} {W W' : World} (h : Wr lo hi W W') (h1 : lo' ≤ lo) (h2 : hi ≤ hi') : Wr lo' hi' W W' := ⟨h.b.mono h1, h.z, fun i k => h.a i (by omega)⟩
theorem Wr.kp {lo hi lo' hi' : Nat} {W W' : World} (h : Wr lo hi W W') (hd : hi' ≤ lo ∨ hi ≤ lo') : Kp lo' hi' W W' := ⟨by rw [h.z]; exact Nat.le_refl _, fun i k1 k2 => by
  rcases hd with hd | hd
  · exact h.b.block i (by omega)
  · exact h.a i (by omega)⟩
theorem Wr.at {lo hi : Nat} {W W' : World} (h : Wr lo hi W W') {i : Nat} (hi' : i < lo ∨ hi ≤ i) : W'.heap[i]? = W.heap[i]? := by
  rcases hi' with k | k
  · exact h.b.block i k
  · exact h.a i k
theorem Wr.setL {lo hi b : Nat} {W W' : World} (h : Wr lo hi W W') (h1 : lo ≤ b) (h2 : b < hi) (o : Nat) (vs : List Value) : Wr lo hi W (setL W' b o vs) :=
  ⟨setL_below h1 _ _ _ h.b, (setL_size _ _ _ _).trans h.z, fun i k => ((setL_kp (lo := hi) (hi := i + 1) (Or.inl h2) vs o W').2 i k (Nat.lt_succ_self i)).trans (h.a i k)⟩
/-- A block of so many cells, that may be written. -/
def HN (W : World) (b n : Nat) : Prop := ∃ us T, W.heap[b]? = some (.cells (us : List Value).toArray T (0, 0)) ∧ us.length = n
theorem HN.keep {W W' : World} {b n : Nat} (h : HN W b n) (he : W'.heap[b]? = W.heap[b]?) : HN W' b n := let ⟨us, T, h1, h2⟩ := h; ⟨us, T, he.trans h1, h2⟩
theorem HN.cells {W : World} {b n j : Nat} (h : HN W b n) (hj : j < n) : (∃ z, W.cell? ⟨b, j, none⟩ = some z) ∧ W.frozen? ⟨b, j, none⟩ = false := by
  obtain ⟨us, T, h1, h2⟩ := h
  refine ⟨⟨us[j]'(by omega), ?_⟩, by simp [World.frozen?, h1]⟩
  rw [cell_of_row _ _ _ _ _ _ h1]
  simp only [List.getElem?_toArray]
  exact List.getElem?_eq_getElem _
theorem HN.put {W : World} {b n o : Nat} (h : HN W b n) (vs : List Value) (ho : o + vs.length ≤ n) : HN (Proofs.YtkmioieanopafaaDoor.setL W b o vs) b n := by
  obtain ⟨us, T, h1, h2⟩ := h
  have e : us = us.take o ++ ((us.drop o).take vs.length ++ (us.drop o).drop vs.length) := by rw [List.take_append_drop, List.take_append_drop]
  rw [e] at h1
  have h3 := setL_heap vs ((us.drop o).take vs.length) (us.take o) W h1 (by rw [List.length_take, List.length_drop]; omega)
  rw [List.length_take, Nat.min_eq_left (by omega)] at h3
  exact ⟨_, T, h3, by simp only [List.length_append, List.length_take, List.length_drop]; omega⟩

/-- Statements from the i-th on, as they were; those before are written over. -/
def SpSt (b : Nat) (l : List SV) (lo hi : Nat) (w : World) (i : Nat) (W : World) : Prop :=
  ∃ ws vs T m, W.heap[b]? = some (.cells (ws ++ vs : List Value).toArray T (0, 0)) ∧ ws.length = i * 7 ∧ b + 1 ≤ m ∧ STO W (l.drop i) m hi vs ∧ Wr lo hi w W
/-- The i-th one, opened. -/
structure SpEl (b : Nat) (l : List SV) (lo hi : Nat) (w : World) (i : Nat) (k : Int) (x : List UInt8) (es : List XV) (ts us : List SV) (ln cn : Int) (A1 : Option Addr) (c1 : Nat) (A2 : Option Addr) (c2 : Nat) (A3 : Option Addr) (c3 : Nat) (m q1 q2 m2 : Nat) (W : World) : Prop where
  ob : b + 1 ≤ m ∧ m ≤ q1 ∧ q1 ≤ q2 ∧ q2 ≤ m2 ∧ m2 ≤ hi
  row : ∃ ws vs T, W.heap[b]? = some (.cells (ws ++ ([.int .i64 k, .string ⟨x.toArray⟩, .slice A1 es.length c1, .slice A2 ts.length c2, .slice A3 us.length c3, .int .i64 ln, .int .i64 cn] ++ vs) : List Value).toArray T (0, 0)) ∧ ws.length = i * 7 ∧ STO W (l.drop (i + 1)) m2 hi vs
  x : es ≠ [] → ∃ b1, A1 = some ⟨b1, 0, none⟩ ∧ m ≤ b1 ∧ b1 < q1 ∧ HN W b1 (es.length * 7)
  wr : Wr lo hi w W
section
variable {b : Nat} {l : List SV} {lo hi : Nat} {w : World} {i : Nat} {k : Int} {x : List UInt8} {es : List XV} {ts us : List SV} {ln cn : Int} {A1 : Option Addr} {c1 : Nat} {A2 : Option Addr} {c2 : Nat} {A3 : Option Addr} {c3 : Nat} {m q1 q2 m2 : Nat} {W W' : World}
theorem SpSt.el (h : SpSt b l lo hi w i W) (he : l[i]? = some (.mk k x es ts us ln cn)) : ∃ A1 c1 A2 c2 A3 c3 m q1 q2 m2, SpEl b l lo hi w i k x es ts us ln cn A1 c1 A2 c2 A3 c3 m q1 q2 m2 W ∧ SO W q1 q2 A2 ts ∧ SO W q2 m2 A3 us := by
  obtain ⟨ws, vs, T, m, h1, h2, h3, h4, h5⟩ := h
  have hd : l.drop i = .mk k x es ts us ln cn :: l.drop (i + 1) := by
    have hi := (List.getElem?_eq_some_iff.1 he).1
    rw [List.drop_eq_getElem_cons hi]
    congr 1
    exact (List.getElem?_eq_some_iff.1 he).2
  rw [hd] at h4
  unfold STO at h4
  obtain ⟨m2, cs, us', k1, k2, rfl, k4, k5⟩ := h4
  unfold SOC at k4
  obtain ⟨A1, c1, A2, c2, A3, c3, q1, q2, rfl, j1, j2, j3, j4, j5, j6⟩ := k4
  refine ⟨A1, c1, A2, c2, A3, c3, m, q1, q2, m2, ⟨⟨h3, j1, j2, j3, k2⟩, ⟨ws, us', T, h1, h2, k5⟩, fun hn => ?_, h5⟩, j5, j6⟩
  obtain ⟨b1, v1, T1, i1, i2, i3, i4, i5⟩ := j4 hn
  exact ⟨b1, i1, i2, i3, v1, T1, i4, i5.len⟩
/-- Something has been written below the element. -/
theorem SpEl.wrote (h : SpEl b l lo hi w i k x es ts us ln cn A1 c1 A2 c2 A3 c3 m q1 q2 m2 W) (hw : Wr m m2 W W') (hb : lo ≤ b) (hx : es ≠ [] → ∀ b1, A1 = some ⟨b1, 0, none⟩ → HN W b1 (es.length * 7) → HN W' b1 (es.length * 7)) : SpEl b l lo hi w i k x es ts us ln cn A1 c1 A2 c2 A3 c3 m q1 q2 m2 W' := by
  obtain ⟨⟨o1, o2, o3, o4, o5⟩, ⟨ws, vs, T, h1, h2, h3⟩, h4, h5⟩ := h
  refine ⟨⟨o1, o2, o3, o4, o5⟩, ⟨ws, vs, T, (hw.at (Or.inl (by omega))).trans h1, h2, h3.keep _ _ _ _ (hw.kp (Or.inr (Nat.le_refl _)))⟩, fun hn => ?_, h5.trans (hw.mono (by omega) o5)⟩
  obtain ⟨b1, j1, j2, j3, j4⟩ := h4 hn
  exact ⟨b1, j1, j2, j3, hx hn b1 j1 j4⟩
theorem SpEl.cells (h : SpEl b l lo hi w i k x es ts us ln cn A1 c1 A2 c2 A3 c3 m q1 q2 m2 W) : W.cell? ⟨b, i * 7 + 2, none⟩ = some (.slice A1 es.length c1) ∧ W.cell? ⟨b, i * 7 + 3, none⟩ = some (.slice A2 ts.length c2) ∧ W.cell? ⟨b, i * 7 + 4, none⟩ = some (.slice A3 us.length c3) := by
  obtain ⟨ws, vs, T, h1, h2, h3⟩ := h.row
  have g : ∀ j v, ([.int .i64 k, .string ⟨x.toArray⟩, .slice A1 es.length c1, .slice A2 ts.length c2, .slice A3 us.length c3, .int .i64 ln, .int .i64 cn] : List Value)[j]? = some v → W.cell? ⟨b, i * 7 + j, none⟩ = some v := fun j v hj => by
    rw [cell_of_row _ _ _ _ _ _ h1]
    simp only [List.getElem?_toArray]
    rw [List.getElem?_append_right (by omega), h2, Nat.add_sub_cancel_left, List.getElem?_append_left (List.getElem?_eq_some_iff.1 hj).1]
    exact hj
  exact ⟨g 2 _ rfl, g 3 _ rfl, g 4 _ rfl⟩
theorem SpEl.all (h : SpEl b l lo hi w i k x es ts us ln cn A1 c1 A2 c2 A3 c3 m q1 q2 m2 W) {j : Nat} (hj : j < 7) : (∃ z, W.cell? ⟨b, i * 7 + j, none⟩ = some z) ∧ W.frozen? ⟨b, i * 7 + j, none⟩ = false := by
  obtain ⟨ws, vs, T, h1, h2, h3⟩ := h.row
  exact HN.cells (n := i * 7 + (7 + vs.length)) ⟨_, T, h1, by simp [h2]; omega⟩ (by omega)
/-- The element itself is written over: on to the next. -/
theorem SpEl.next (h : SpEl b l lo hi w i k x es ts us ln cn A1 c1 A2 c2 A3 c3 m q1 q2 m2 W) (hb : lo ≤ b) (hbh : b < hi) (cs : List Value) (hc : cs.length = 7) : SpSt b l lo hi w (i + 1) (setL W b (i * 7) cs) := by
  obtain ⟨⟨o1, o2, o3, o4, o5⟩, ⟨ws, vs, T, h1, h2, h3⟩, h4, h5⟩ := h
  have h6 := setL_heap cs [.int .i64 k, .string ⟨x.toArray⟩, .slice A1 es.length c1, .slice A2 ts.length c2, .slice A3 us.length c3, .int .i64 ln, .int .i64 cn] ws W h1 (by rw [hc]; rfl)
  rw [h2] at h6
  exact ⟨ws ++ cs, vs, T, m2, by rw [h6]; simp, by simp [h2, hc]; omega, by omega, h3.keep _ _ _ _ (setL_kp (Or.inl (by omega)) _ _ _), h5.setL hb hbh _ _⟩
end
end

section
open Go.RowKit

set_option maxRecDepth 100000 in
set_option maxHeartbeats 16000000 in
theorem spoilS (N : Nat) : ∀ (l : List SV), ssz l ≤ N → N ≤ 4000000 → ∀ (lo hi : Nat) (A : Option Addr) (c : Nat) (w : World), SO w lo hi A l → lo ≤ hi → hi ≤ w.heap.size → Calls Tryd.prog 78 #[.slice A l.length c] w fun e w' => (∃ v, e = .returned v) ∧ Wr lo hi w w' := by
  induction N using Nat.strongRecOn with
  | ind N ih =>
  intro l hN hNN lo hi A c w hso hlh hhs
  have hlen := ssz_len l
  obtain ⟨n, hn⟩ : ∃ n, n = l.length := ⟨_, rfl⟩
  rw [← hn] at hlen ⊢
  have HN := Lib.hid hn
  have IH := Lib.hid ih
  by_cases h0 : l = []
  · have hn0 : n = 0 := by rw [hn, h0]; rfl
    subst hn0
    clear hn ih hso
    go_enter Tryd.func78, Tryd.ntmps78
    go_wp2_with fail
    go_loopw [2] (fun u W => u = .int .i64 0 ∧ W = w) (fun _ _ => 0)
    case atStart => exact ⟨rfl, rfl⟩
    case round =>
      obtain ⟨rfl, rfl⟩ := hrel
      go_wp2_with fail
      go_end0
      exact ⟨⟨_, rfl⟩, Wr.refl _ _ _ (by omega)⟩
  · obtain ⟨b, vs, T, rfl, hb1, hb2, h4, h5⟩ := hso h0
    have hst0 : Hid (SpSt b l lo hi w 0 w) := ⟨[], vs, T, b + 1, by simpa using h4, rfl, Nat.le_refl _, by simpa using h5, Wr.refl _ _ _ (by omega)⟩
    obtain ⟨ad, had⟩ : ∃ ad, ad = (⟨b, 0, none⟩ : Addr) := ⟨_, rfl⟩
    rw [← had]
    replace had := Lib.hid had
    clear hn ih hso h4 h5 vs T
    go_enter Tryd.func78, Tryd.ntmps78
    go_wp2_with fail
    go_loopw [2] (fun u W => ∃ i : Nat, i ≤ n ∧ u = .int .i64 i ∧ Hid (SpSt b l lo hi w i W)) (fun u _ => n - (intOf u).toNat)
    case atStart => exact ⟨0, by omega, rfl, hst0.out⟩
    case round =>
      clear hst0
      obtain ⟨i, hi', rfl, hst⟩ := hrel
      by_cases hlt : i < n
      · have hlt' : (i : Int) < n := by omega
        obtain ⟨s, hs⟩ : ∃ s, l[i]? = some s := ⟨_, List.getElem?_eq_getElem (by rw [← HN.out]; exact hlt)⟩
        have hsz := ssz_get hs
        rw [ssz1_eq] at hsz
        cases s with
        | mk k x es ts us ln cn =>
        simp only [SV.es, SV.ts, SV.us] at hsz
        obtain ⟨A1, c1, A2, c2, A3, c3, m, q1, q2, m2, hel, ht, hu⟩ := hst.out.el hs
        have hel := Lib.hid hel
        have ht := Lib.hid ht
        have hu := Lib.hid hu
        have hq := hel.out.ob
        have hsw : Hid (wr.heap.size = w.heap.size) := hel.out.wr.z
        have pt := Lib.hid (fun W h1 h2 h3 => IH.out (ssz ts) (by omega) ts (Nat.le_refl _) (by omega) q1 q2 A2 c2 W h1 h2 h3)
        have pu := Lib.hid (fun W h1 h2 h3 => IH.out (ssz us) (by omega) us (Nat.le_refl _) (by omega) q2 m2 A3 c3 W h1 h2 h3)
        have hadi : ad.add (i * 7) = ⟨b, i * 7, none⟩ := by rw [had.out, add_at, Nat.zero_add]
        obtain ⟨ne, hne⟩ : ∃ n, n = es.length := ⟨_, rfl⟩
        obtain ⟨nt, hnt⟩ : ∃ n, n = ts.length := ⟨_, rfl⟩
        obtain ⟨nu, hnu⟩ : ∃ n, n = us.length := ⟨_, rfl⟩
        have hcl : Hid (∀ {A1 : Option Addr} {W : World}, SpEl b l lo hi w i k x es ts us ln cn A1 c1 A2 c2 A3 c3 m q1 q2 m2 W → W.cell? ⟨b, i * 7 + 2, none⟩ = some (.slice A1 ne c1) ∧ W.cell? ⟨b, i * 7 + 3, none⟩ = some (.slice A2 nt c2) ∧ W.cell? ⟨b, i * 7 + 4, none⟩ = some (.slice A3 nu c3)) := fun {A1 W} h => by rw [hne, hnt, hnu]; exact h.cells
        rw [← hnt] at pt
        rw [← hnu] at pu
        have hnez : ne ≤ 4000000 := by have := xsz_len es; omega
        replace hne := Lib.hid hne
        clear hnt hnu hs hsz hst
        obtain ⟨W0, hW0⟩ : ∃ W, W = wr := ⟨_, rfl⟩
        have hin0 : Hid (SpEl b l lo hi w i k x es ts us ln cn A1 c1 A2 c2 A3 c3 m q1 q2 m2 wr ∧ Wr m q1 W0 wr) := ⟨hel.out, by rw [hW0]; exact Wr.refl _ _ _ (by rw [hsw.out]; omega)⟩
        rw [← hW0] at ht hu hsw
        clear hel hW0
        go_wp2_with fail
        go_loopw [3] (fun u W => ∃ j : Nat, j ≤ ne ∧ u = .int .i64 j ∧ Hid (SpEl b l lo hi w i k x es ts us ln cn A1 c1 A2 c2 A3 c3 m q1 q2 m2 W ∧ Wr m q1 W0 W)) (fun u _ => ne - (intOf u).toNat)
        case atStart => exact ⟨0, by omega, rfl, hin0.out⟩
        case round =>
          clear hin0
          obtain ⟨j, hj, rfl, hin⟩ := hrel
          have s0 := hcl.out hin.out.1
          by_cases hjl : j < ne
          · have hjl' : (j : Int) < ne := by omega
            have hen : es ≠ [] := by rintro rfl; rw [hne.out] at hjl; simp at hjl
            obtain ⟨b1, hA1, hb3, hb4, hhn⟩ := hin.out.1.x hen
            obtain ⟨ad1, had1⟩ : ∃ a, a = (⟨b1, 0, none⟩ : Addr) := ⟨_, rfl⟩
            rw [← had1] at hA1
            subst hA1
            have hadj : ad1.add (j * 7) = ⟨b1, j * 7, none⟩ := by rw [had1, add_at, Nat.zero_add]
            replace had1 := Lib.hid had1
            have hnx : Hid (SpEl b l lo hi w i k x es ts us ln cn (some ad1) c1 A2 c2 A3 c3 m q1 q2 m2 (setL wr b1 (j * 7) [.int .i64 1, .int .i64 0, .string ⟨#[115, 112, 111, 105, 108, 116]⟩, .int .i64 0, .slice none 0 0, .int .i64 0, .int .i64 0]) ∧ Wr m q1 W0 (setL wr b1 (j * 7) [.int .i64 1, .int .i64 0, .string ⟨#[115, 112, 111, 105, 108, 116]⟩, .int .i64 0, .slice none 0 0, .int .i64 0, .int .i64 0])) := by
              refine ⟨hin.out.1.wrote ((Wr.refl m m2 wr (by rw [hin.out.2.z, hsw.out]; omega)).setL hb3 (by omega) _ _) hb1 fun _ b' e hh => ?_, hin.out.2.setL hb3 hb4 _ _⟩
              have e4 : b1 = b' := congrArg Addr.block (had1.out.symm.trans (Option.some.inj e))
              subst e4
              exact hh.put _ (by rw [← hne.out]; show j * 7 + 7 ≤ ne * 7; omega)
            obtain ⟨z0, g0⟩ := (hhn.cells (j := j * 7 + 0) (by rw [← hne.out]; omega)).1
            have f0 := (hhn.cells (j := j * 7 + 0) (by rw [← hne.out]; omega)).2
            replace g0 : wr.cell? ⟨b1, j * 7, none⟩ = some z0 := g0
            replace f0 : wr.frozen? ⟨b1, j * 7, none⟩ = false := f0
            obtain ⟨z1, g1⟩ := (hhn.cells (j := j * 7 + 1) (by rw [← hne.out]; omega)).1
            have f1 := (hhn.cells (j := j * 7 + 1) (by rw [← hne.out]; omega)).2
            replace g1 : wr.cell? ⟨b1, j * 7 + 1, none⟩ = some z1 := g1
            replace f1 : wr.frozen? ⟨b1, j * 7 + 1, none⟩ = false := f1
            obtain ⟨z2, g2⟩ := (hhn.cells (j := j * 7 + 2) (by rw [← hne.out]; omega)).1
            have f2 := (hhn.cells (j := j * 7 + 2) (by rw [← hne.out]; omega)).2
            replace g2 : wr.cell? ⟨b1, j * 7 + 2, none⟩ = some z2 := g2
            replace f2 : wr.frozen? ⟨b1, j * 7 + 2, none⟩ = false := f2
            obtain ⟨z3, g3⟩ := (hhn.cells (j := j * 7 + 3) (by rw [← hne.out]; omega)).1
            have f3 := (hhn.cells (j := j * 7 + 3) (by rw [← hne.out]; omega)).2
            replace g3 : wr.cell? ⟨b1, j * 7 + 3, none⟩ = some z3 := g3
            replace f3 : wr.frozen? ⟨b1, j * 7 + 3, none⟩ = false := f3
            obtain ⟨z4, g4⟩ := (hhn.cells (j := j * 7 + 4) (by rw [← hne.out]; omega)).1
            have f4 := (hhn.cells (j := j * 7 + 4) (by rw [← hne.out]; omega)).2
            replace g4 : wr.cell? ⟨b1, j * 7 + 4, none⟩ = some z4 := g4
            replace f4 : wr.frozen? ⟨b1, j * 7 + 4, none⟩ = false := f4
            obtain ⟨z5, g5⟩ := (hhn.cells (j := j * 7 + 5) (by rw [← hne.out]; omega)).1
            have f5 := (hhn.cells (j := j * 7 + 5) (by rw [← hne.out]; omega)).2
            replace g5 : wr.cell? ⟨b1, j * 7 + 5, none⟩ = some z5 := g5
            replace f5 : wr.frozen? ⟨b1, j * 7 + 5, none⟩ = false := f5
            obtain ⟨z6, g6⟩ := (hhn.cells (j := j * 7 + 6) (by rw [← hne.out]; omega)).1
            have f6 := (hhn.cells (j := j * 7 + 6) (by rw [← hne.out]; omega)).2
            replace g6 : wr.cell? ⟨b1, j * 7 + 6, none⟩ = some z6 := g6
            replace f6 : wr.frozen? ⟨b1, j * 7 + 6, none⟩ = false := f6
            clear hin hhn hb3 hb4
            go_wp2_with fail
            have hW : (((((((wr.setCell ⟨b1, j * 7, none⟩ (.int .i64 1)).setCell ⟨b1, j * 7 + 1, none⟩ (.int .i64 0)).setCell ⟨b1, j * 7 + 2, none⟩ (.string ⟨#[115, 112, 111, 105, 108, 116]⟩)).setCell ⟨b1, j * 7 + 3, none⟩ (.int .i64 0)).setCell ⟨b1, j * 7 + 4, none⟩ (.slice none 0 0)).setCell ⟨b1, j * 7 + 5, none⟩ (.int .i64 0)).setCell ⟨b1, j * 7 + 6, none⟩ (.int .i64 0)) = setL wr b1 (j * 7) [.int .i64 1, .int .i64 0, .string ⟨#[115, 112, 111, 105, 108, 116]⟩, .int .i64 0, .slice none 0 0, .int .i64 0, .int .i64 0] := rfl
            first | rw [hW] | skip
            exact ⟨⟨j + 1, by omega, by go_num, hnx.out⟩, by simp [intOf]; omega⟩
          · obtain rfl : j = ne := by omega
            have hjl' : ¬ (j : Int) < j := by omega
            have hel := Lib.hid hin.out.1
            have hw1 := Lib.hid hin.out.2
            clear hin
            go_wp2_with fail
            refine (pt.out wr (ht.out.keep (hw1.out.kp (Or.inr (Nat.le_refl _)))) (by omega) (by rw [hw1.out.z, hsw.out]; omega)).mono ?_
            rintro e1 w1 ⟨⟨v1, rfl⟩, hb5⟩
            have hel2 := Lib.hid (hel.out.wrote (hb5.mono (by omega) (by omega)) hb1 fun hn b' e hh => by
              obtain ⟨b'', e2, k1, k2, -⟩ := hel.out.x hn
              have e4 : b' = b'' := congrArg Addr.block (Option.some.inj (e.symm.trans e2))
              subst e4
              exact hh.keep (hb5.at (Or.inl (by omega))))
            have hz1 : Hid (w1.heap.size = w.heap.size) := by show _ = _; rw [hb5.z, hw1.out.z, hsw.out]
            have hu1 := Lib.hid ((hu.out.keep (hw1.out.kp (Or.inr (by omega)))).keep (hb5.kp (Or.inr (Nat.le_refl _))))
            have s1 := hcl.out hel2.out
            clear s0 hel hw1 hb5
            go_wp2_with fail
            refine (pu.out w1 hu1.out (by omega) (by rw [hz1.out]; omega)).mono ?_
            rintro e2 w2 ⟨⟨v2, rfl⟩, hb6⟩
            have hel3 := Lib.hid (hel2.out.wrote (hb6.mono (by omega) (Nat.le_refl _)) hb1 fun hn b' e hh => by
              obtain ⟨b'', e2, k1, k2, -⟩ := hel2.out.x hn
              have e4 : b' = b'' := congrArg Addr.block (Option.some.inj (e.symm.trans e2))
              subst e4
              exact hh.keep (hb6.at (Or.inl (by omega))))
            have hnx := Lib.hid (hel3.out.next hb1 hb2 [.int .i64 6, .string ⟨#[]⟩, .slice none 0 0, .slice none 0 0, .slice none 0 0, .int .i64 0, .int .i64 0] rfl)
            obtain ⟨z0, g0⟩ := (hel3.out.all (j := 0) (by decide)).1
            have f0 := (hel3.out.all (j := 0) (by decide)).2
            replace g0 : w2.cell? ⟨b, i * 7, none⟩ = some z0 := g0
            replace f0 : w2.frozen? ⟨b, i * 7, none⟩ = false := f0
            obtain ⟨z1, g1⟩ := (hel3.out.all (j := 1) (by decide)).1
            have f1 := (hel3.out.all (j := 1) (by decide)).2
            replace g1 : w2.cell? ⟨b, i * 7 + 1, none⟩ = some z1 := g1
            replace f1 : w2.frozen? ⟨b, i * 7 + 1, none⟩ = false := f1
            obtain ⟨z2, g2⟩ := (hel3.out.all (j := 2) (by decide)).1
            have f2 := (hel3.out.all (j := 2) (by decide)).2
            replace g2 : w2.cell? ⟨b, i * 7 + 2, none⟩ = some z2 := g2
            replace f2 : w2.frozen? ⟨b, i * 7 + 2, none⟩ = false := f2
            obtain ⟨z3, g3⟩ := (hel3.out.all (j := 3) (by decide)).1
            have f3 := (hel3.out.all (j := 3) (by decide)).2
            replace g3 : w2.cell? ⟨b, i * 7 + 3, none⟩ = some z3 := g3
            replace f3 : w2.frozen? ⟨b, i * 7 + 3, none⟩ = false := f3
            obtain ⟨z4, g4⟩ := (hel3.out.all (j := 4) (by decide)).1
            have f4 := (hel3.out.all (j := 4) (by decide)).2
            replace g4 : w2.cell? ⟨b, i * 7 + 4, none⟩ = some z4 := g4
            replace f4 : w2.frozen? ⟨b, i * 7 + 4, none⟩ = false := f4
            obtain ⟨z5, g5⟩ := (hel3.out.all (j := 5) (by decide)).1
            have f5 := (hel3.out.all (j := 5) (by decide)).2
            replace g5 : w2.cell? ⟨b, i * 7 + 5, none⟩ = some z5 := g5
            replace f5 : w2.frozen? ⟨b, i * 7 + 5, none⟩ = false := f5
            obtain ⟨z6, g6⟩ := (hel3.out.all (j := 6) (by decide)).1
            have f6 := (hel3.out.all (j := 6) (by decide)).2
            replace g6 : w2.cell? ⟨b, i * 7 + 6, none⟩ = some z6 := g6
            replace f6 : w2.frozen? ⟨b, i * 7 + 6, none⟩ = false := f6
            clear s1 hel2 hel3 hb6 hu1
            go_wp2_with fail
            have hW : (((((((w2.setCell ⟨b, i * 7, none⟩ (.int .i64 6)).setCell ⟨b, i * 7 + 1, none⟩ (.string ⟨#[]⟩)).setCell ⟨b, i * 7 + 2, none⟩ (.slice none 0 0)).setCell ⟨b, i * 7 + 3, none⟩ (.slice none 0 0)).setCell ⟨b, i * 7 + 4, none⟩ (.slice none 0 0)).setCell ⟨b, i * 7 + 5, none⟩ (.int .i64 0)).setCell ⟨b, i * 7 + 6, none⟩ (.int .i64 0)) = setL w2 b (i * 7) [.int .i64 6, .string ⟨#[]⟩, .slice none 0 0, .slice none 0 0, .slice none 0 0, .int .i64 0, .int .i64 0] := rfl
            first | rw [hW] | skip
            exact ⟨⟨i + 1, by omega, by go_num, hnx.out⟩, by simp [intOf]; omega⟩
      · obtain rfl : i = n := by omega
        have hlt' : ¬ (i : Int) < i := by omega
        obtain ⟨ws, vs, T, m, k1, k2, k3, k4, k5⟩ := hst.out
        have k5 := Lib.hid k5
        clear k1 k2 k3 k4 hst
        go_wp2_with fail
        go_end0
        exact ⟨⟨_, rfl⟩, k5.out⟩
end

section
open Go.RowKit

/-- Declarations from the i-th on, as they were; those before are written over. -/
def SpDt (b : Nat) (l : List DV) (lo hi : Nat) (w : World) (i : Nat) (W : World) : Prop :=
  ∃ ws vs T m, W.heap[b]? = some (.cells (ws ++ vs : List Value).toArray T (0, 0)) ∧ ws.length = i * 9 ∧ b + 1 ≤ m ∧ DTO W (l.drop i) m hi vs ∧ Wr lo hi w W
/-- The i-th one, opened. -/
structure SpDl (b : Nat) (l : List DV) (lo hi : Nat) (w : World) (i : Nat) (d : DV) (A1 : Option Addr) (c1 : Nat) (A2 : Option Addr) (c2 : Nat) (m q m2 : Nat) (W : World) : Prop where
  ob : b + 1 ≤ m ∧ m ≤ q ∧ q ≤ m2 ∧ m2 ≤ hi
  row : ∃ ws vs T, W.heap[b]? = some (.cells (ws ++ ([.int .i64 d.k, .string ⟨d.x.toArray⟩, .int .i64 d.lo, .int .i64 d.hi, .int .i64 d.sz, .slice A1 d.ps.length c1, .slice A2 d.body.length c2, .int .i64 d.l, .int .i64 d.c] ++ vs) : List Value).toArray T (0, 0)) ∧ ws.length = i * 9 ∧ DTO W (l.drop (i + 1)) m2 hi vs
  x : d.ps ≠ [] → ∃ b1, A1 = some ⟨b1, 0, none⟩ ∧ m ≤ b1 ∧ b1 < q ∧ HN W b1 d.ps.length
  wr : Wr lo hi w W
section
variable {b : Nat} {l : List DV} {lo hi : Nat} {w : World} {i : Nat} {d : DV} {A1 : Option Addr} {c1 : Nat} {A2 : Option Addr} {c2 : Nat} {m q m2 : Nat} {W W' : World}
theorem SpDt.el (h : SpDt b l lo hi w i W) (he : l[i]? = some d) : ∃ A1 c1 A2 c2 m q m2, SpDl b l lo hi w i d A1 c1 A2 c2 m q m2 W ∧ SO W q m2 A2 d.body := by
  obtain ⟨ws, vs, T, m, h1, h2, h3, h4, h5⟩ := h
  have hd : l.drop i = d :: l.drop (i + 1) := by
    have hi := (List.getElem?_eq_some_iff.1 he).1
    rw [List.drop_eq_getElem_cons hi]
    congr 1
    exact (List.getElem?_eq_some_iff.1 he).2
  rw [hd] at h4
  unfold DTO at h4
  obtain ⟨m2, cs, us', k1, k2, rfl, k4, k5⟩ := h4
  obtain ⟨A1, c1, A2, c2, q, rfl, j1, j2, j3, j4⟩ := k4
  refine ⟨A1, c1, A2, c2, m, q, m2, ⟨⟨h3, j1, j2, k2⟩, ⟨ws, us', T, h1, h2, k5⟩, fun hn => ?_, h5⟩, j4⟩
  obtain ⟨b1, T1, i1, i2, i3, i4⟩ := j3 hn
  exact ⟨b1, i1, i2, i3, _, T1, i4, by simp [strs]⟩
theorem SpDl.wrote (h : SpDl b l lo hi w i d A1 c1 A2 c2 m q m2 W) (hw : Wr m m2 W W') (hb : lo ≤ b) (hx : d.ps ≠ [] → ∀ b1, A1 = some ⟨b1, 0, none⟩ → HN W b1 d.ps.length → HN W' b1 d.ps.length) : SpDl b l lo hi w i d A1 c1 A2 c2 m q m2 W' := by
  obtain ⟨⟨o1, o2, o4, o5⟩, ⟨ws, vs, T, h1, h2, h3⟩, h4, h5⟩ := h
  refine ⟨⟨o1, o2, o4, o5⟩, ⟨ws, vs, T, (hw.at (Or.inl (by omega))).trans h1, h2, h3.keep _ _ _ _ (hw.kp (Or.inr (Nat.le_refl _)))⟩, fun hn => ?_, h5.trans (hw.mono (by omega) o5)⟩
  obtain ⟨b1, j1, j2, j3, j4⟩ := h4 hn
  exact ⟨b1, j1, j2, j3, hx hn b1 j1 j4⟩
theorem SpDl.cells (h : SpDl b l lo hi w i d A1 c1 A2 c2 m q m2 W) : W.cell? ⟨b, i * 9 + 5, none⟩ = some (.slice A1 d.ps.length c1) ∧ W.cell? ⟨b, i * 9 + 6, none⟩ = some (.slice A2 d.body.length c2) := by
  obtain ⟨ws, vs, T, h1, h2, h3⟩ := h.row
  have g : ∀ j v, ([.int .i64 d.k, .string ⟨d.x.toArray⟩, .int .i64 d.lo, .int .i64 d.hi, .int .i64 d.sz, .slice A1 d.ps.length c1, .slice A2 d.body.length c2, .int .i64 d.l, .int .i64 d.c] : List Value)[j]? = some v → W.cell? ⟨b, i * 9 + j, none⟩ = some v := fun j v hj => by
    rw [cell_of_row _ _ _ _ _ _ h1]
    simp only [List.getElem?_toArray]
    rw [List.getElem?_append_right (by omega), h2, Nat.add_sub_cancel_left, List.getElem?_append_left (List.getElem?_eq_some_iff.1 hj).1]
    exact hj
  exact ⟨g 5 _ rfl, g 6 _ rfl⟩
theorem SpDl.all (h : SpDl b l lo hi w i d A1 c1 A2 c2 m q m2 W) {j : Nat} (hj : j < 9) : (∃ z, W.cell? ⟨b, i * 9 + j, none⟩ = some z) ∧ W.frozen? ⟨b, i * 9 + j, none⟩ = false := by
  obtain ⟨ws, vs, T, h1, h2, h3⟩ := h.row
  exact HN.cells (n := i * 9 + (9 + vs.length)) ⟨_, T, h1, by simp [h2]; omega⟩ (by omega)
theorem SpDl.next (h : SpDl b l lo hi w i d A1 c1 A2 c2 m q m2 W) (hb : lo ≤ b) (hbh : b < hi) (cs : List Value) (hc : cs.length = 9) : SpDt b l lo hi w (i + 1) (setL W b (i * 9) cs) := by
  obtain ⟨⟨o1, o2, o4, o5⟩, ⟨ws, vs, T, h1, h2, h3⟩, h4, h5⟩ := h
  have h6 := setL_heap cs [.int .i64 d.k, .string ⟨d.x.toArray⟩, .int .i64 d.lo, .int .i64 d.hi, .int .i64 d.sz, .slice A1 d.ps.length c1, .slice A2 d.body.length c2, .int .i64 d.l, .int .i64 d.c] ws W h1 (by rw [hc]; rfl)
  rw [h2] at h6
  exact ⟨ws ++ cs, vs, T, m2, by rw [h6]; simp, by simp [h2, hc]; omega, by omega, h3.keep _ _ _ _ (setL_kp (Or.inl (by omega)) _ _ _), h5.setL hb hbh _ _⟩
end
/-- A box and what is in it. -/
def Bx2 (W : World) (g : Nat) (u v : Value) : Prop := W.cell? ⟨g, 0, none⟩ = some u ∧ W.cell? ⟨g, 1, none⟩ = some v
theorem Bx2.keep {W W' : World} {g : Nat} {u v : Value} (h : Bx2 W g u v) (he : W'.heap[g]? = W.heap[g]?) : Bx2 W' g u v := ⟨(World.cell?_of_block he).trans h.1, (World.cell?_of_block he).trans h.2⟩

set_option maxRecDepth 100000 in
set_option maxHeartbeats 16000000 in
theorem spoilP (l : List DV) (mn : List SV) (hN : sbk mn + dbk l ≤ 4000000) (lo hm hi : Nat) (A : Option Addr) (c : Nat) (B : Option Addr) (c' : Nat) (w0 : World) (hso : DO w0 lo hm A l) (hsm : SO w0 hm hi B mn) (hlm : lo ≤ hm) (hmh : hm ≤ hi) (hhs : hi ≤ w0.heap.size) : Calls Tryd.prog 34 #[.agg #[.slice A l.length c, .slice B mn.length c']] w0 fun e w' => (∃ v, e = .returned v) ∧ Below lo w0 w' := by
  have hlen : l.length ≤ dbk l := Nat.le_trans (dsz_len l) (dsz_bk l)
  have hsz := ssz_bk mn
  obtain ⟨n, hn⟩ : ∃ n, n = l.length := ⟨_, rfl⟩
  obtain ⟨nm, hnm⟩ : ∃ n, n = mn.length := ⟨_, rfl⟩
  have HS0 := Lib.hid (fun W h1 h2 h3 => spoilS (ssz mn) mn (Nat.le_refl _) (by omega) hm hi B c' W h1 h2 h3)
  rw [← hnm] at HS0 ⊢
  rw [← hn] at hlen ⊢
  have HN := Lib.hid hn
  clear hnm
  obtain ⟨g, hg⟩ : ∃ g, g = w0.heap.size := ⟨_, rfl⟩
  have hbn := bnew5 w0 (.cells #[.slice A n c, .slice B nm c'] 41)
  have hnew : Hid (Bx2 (w0.alloc (.cells #[.slice A n c, .slice B nm c'] 41)) g (.slice A n c) (.slice B nm c')) := by
    rw [hg]
    exact ⟨by rw [cell_of_row _ _ _ _ _ _ (heap_alloc_new _ _)]; rfl, by rw [cell_of_row _ _ _ _ _ _ (heap_alloc_new _ _)]; rfl⟩
  have hd0 := Lib.hid (hso.keep (Kp.of_below hbn (by omega)))
  have hm0 := Lib.hid (hsm.keep (Kp.of_below hbn hhs))
  have hz0 : Hid ((w0.alloc (.cells #[.slice A n c, .slice B nm c'] 41)).heap.size = w0.heap.size + 1) := by show _ = _; simp
  have HB0 := Lib.hid hbn
  clear hn hso hsm hbn
  go_enter Tryd.func34, Tryd.ntmps34
  go_wp2_with fail
  generalize w0.alloc (.cells #[.slice A n c, .slice B nm c'] 41) = W0 at *
  rw [← hg]
  have hgz : hi ≤ g := by omega
  replace hg := Lib.hid hg
  have s0 := hnew.out.2
  go_wp2_with fail
  refine (HS0.out W0 hm0.out (by omega) (by rw [hz0.out]; omega)).mono ?_
  rintro e1 w ⟨⟨v1, rfl⟩, hb1⟩
  have hbx : Hid (Bx2 w g (.slice A n c) (.slice B nm c')) := hnew.out.keep (hb1.a g (by omega))
  have hd1 := Lib.hid (hd0.out.keep (hb1.kp (Or.inl (Nat.le_refl _))))
  have hzw : Hid (hi ≤ w.heap.size ∧ g < w.heap.size) := by
    have := hb1.z
    have := hg.out
    rw [hz0.out] at *
    show _ ∧ _
    omega
  have HBw := Lib.hid (((HB0.out.mono (show lo ≤ w0.heap.size by omega)).trans (hb1.b.mono hlm)))
  clear hnew hd0 hm0 hz0 HB0 s0 hb1 HS0
  by_cases h0 : l = []
  · have hn0 : n = 0 := by rw [HN.out, h0]; rfl
    subst hn0
    have s0 := hbx.out.1
    go_wp2_with fail
    go_loopw [2] (fun u W => u = .int .i64 0 ∧ W = w) (fun _ _ => 0)
    case atStart => exact ⟨rfl, rfl⟩
    case round =>
      obtain ⟨rfl, rfl⟩ := hrel
      go_wp2_with fail
      go_end0
      exact ⟨⟨_, rfl⟩, HBw.out⟩
  · obtain ⟨b, vs, T, rfl, hb1, hb2, h4, h5⟩ := hd1.out h0
    have hst0 : Hid (SpDt b l lo hm w 0 w) := ⟨[], vs, T, b + 1, by simpa using h4, rfl, Nat.le_refl _, by simpa using h5, Wr.refl _ _ _ (by have := hzw.out; omega)⟩
    obtain ⟨ad, had⟩ : ∃ ad, ad = (⟨b, 0, none⟩ : Addr) := ⟨_, rfl⟩
    rw [← had] at hbx
    have HDsz : Hid (∀ (i : Nat) (d : DV), l[i]? = some d → ssz d.body ≤ 4000000 ∧ d.ps.length ≤ 4000000) := fun i d h => by
      have h1 := dbk_get h
      have h2 := ssz_bk d.body
      have h3 := pbk_len d.ps
      unfold dbk1 at h1
      omega
    replace had := Lib.hid had
    clear h4 h5 vs T hd1
    go_wp2_with fail
    go_loopw [2] (fun u W => ∃ i : Nat, i ≤ n ∧ u = .int .i64 i ∧ Hid (SpDt b l lo hm w i W)) (fun u _ => n - (intOf u).toNat)
    case atStart => exact ⟨0, by omega, rfl, hst0.out⟩
    case round =>
      clear hst0
      obtain ⟨i, hi', rfl, hst⟩ := hrel
      have hbr : Hid (Bx2 wr g (.slice (some ad) n c) (.slice B nm c')) := by
        obtain ⟨ws, vs, T, m, k1, k2, k3, k4, k5⟩ := hst.out
        exact hbx.out.keep (k5.a g (by omega))
      have sb := hbr.out.1
      by_cases hlt : i < n
      · have hlt' : (i : Int) < n := by omega
        obtain ⟨d, hs⟩ : ∃ d, l[i]? = some d := ⟨_, List.getElem?_eq_getElem (by rw [← HN.out]; exact hlt)⟩
        have hsz := HDsz.out i d hs
        obtain ⟨A1, c1, A2, c2, m, q, m2, hel, ht⟩ := hst.out.el hs
        have hel := Lib.hid hel
        have ht := Lib.hid ht
        have hq := hel.out.ob
        have hsw : Hid (wr.heap.size = w.heap.size) := hel.out.wr.z
        have pt := Lib.hid (fun W h1 h2 h3 => spoilS (ssz d.body) d.body (Nat.le_refl _) hsz.1 q m2 A2 c2 W h1 h2 h3)
        have hadi : ad.add (i * 9) = ⟨b, i * 9, none⟩ := by rw [had.out, add_at, Nat.zero_add]
        obtain ⟨ne, hne⟩ : ∃ n, n = d.ps.length := ⟨_, rfl⟩
        obtain ⟨nt, hnt⟩ : ∃ n, n = d.body.length := ⟨_, rfl⟩
        have hcl : Hid (∀ {A1 : Option Addr} {W : World}, SpDl b l lo hm w i d A1 c1 A2 c2 m q m2 W → W.cell? ⟨b, i * 9 + 5, none⟩ = some (.slice A1 ne c1) ∧ W.cell? ⟨b, i * 9 + 6, none⟩ = some (.slice A2 nt c2)) := fun {A1 W} h => by rw [hne, hnt]; exact h.cells
        rw [← hnt] at pt
        have hnez : ne ≤ 4000000 := by have := hsz.2; omega
        replace hne := Lib.hid hne
        have HZ := hzw.out
        have s1 := hcl.out hel.out
        clear hnt hs hsz hst
        go_wp2_with fail
        refine (pt.out wr ht.out (by omega) (by rw [hsw.out]; omega)).mono ?_
        rintro e1 w1 ⟨⟨v1, rfl⟩, hb5⟩
        have hel2 := Lib.hid (hel.out.wrote (hb5.mono (by omega) (Nat.le_refl _)) hb1 fun hn b' e hh => by
          obtain ⟨b'', e2, k1, k2, -⟩ := hel.out.x hn
          have e4 : b' = b'' := congrArg Addr.block (Option.some.inj (e.symm.trans e2))
          subst e4
          exact hh.keep (hb5.at (Or.inl (by omega))))
        have hbr2 : Hid (Bx2 w1 g (.slice (some ad) n c) (.slice B nm c')) := hbr.out.keep (hb5.a g (by omega))
        clear s1 hel hb5 sb hbr ht hsw
        go_wp2_with fail
        go_loopw [3] (fun u W => ∃ j : Nat, j ≤ ne ∧ u = .int .i64 j ∧ Hid (SpDl b l lo hm w i d A1 c1 A2 c2 m q m2 W ∧ Bx2 W g (.slice (some ad) n c) (.slice B nm c'))) (fun u _ => ne - (intOf u).toNat)
        case atStart => exact ⟨0, by omega, rfl, hel2.out, hbr2.out⟩
        case round =>
          clear hel2 hbr2
          obtain ⟨j, hj, rfl, hin⟩ := hrel
          have s0 := hcl.out hin.out.1
          have s1 := hin.out.2.1
          by_cases hjl : j < ne
          · have hjl' : (j : Int) < ne := by omega
            have hen : d.ps ≠ [] := by intro e; rw [hne.out, e] at hjl; simp at hjl
            obtain ⟨b1, hA1, hb3, hb4, hhn⟩ := hin.out.1.x hen
            obtain ⟨ad1, had1⟩ : ∃ a, a = (⟨b1, 0, none⟩ : Addr) := ⟨_, rfl⟩
            rw [← had1] at hA1
            subst hA1
            have hadj : ad1.add j = ⟨b1, j, none⟩ := by rw [had1, add_at, Nat.zero_add]
            replace had1 := Lib.hid had1
            have hws : Hid (m ≤ wr.heap.size) := by have := hin.out.1.wr.z; show _ ≤ _; omega
            have hnx : Hid (SpDl b l lo hm w i d (some ad1) c1 A2 c2 m q m2 (setL wr b1 j [.string ⟨#[115, 112, 111, 105, 108, 116]⟩]) ∧ Bx2 (setL wr b1 j [.string ⟨#[115, 112, 111, 105, 108, 116]⟩]) g (.slice (some ad) n c) (.slice B nm c')) := by
              refine ⟨hin.out.1.wrote ((Wr.refl m m2 wr hws.out).setL hb3 (by omega) _ _) hb1 fun _ b' e hh => ?_, hin.out.2.keep ((setL_kp (lo := g) (hi := g + 1) (Or.inl (by omega)) _ _ wr).2 g (Nat.le_refl _) (Nat.lt_succ_self _))⟩
              have e4 : b1 = b' := congrArg Addr.block (had1.out.symm.trans (Option.some.inj e))
              subst e4
              exact hh.put _ (by rw [← hne.out]; show j + 1 ≤ ne; omega)
            obtain ⟨z0, g0⟩ := (hhn.cells (j := j + 0) (by rw [← hne.out]; omega)).1
            have f0 := (hhn.cells (j := j + 0) (by rw [← hne.out]; omega)).2
            replace g0 : wr.cell? ⟨b1, j, none⟩ = some z0 := g0
            replace f0 : wr.frozen? ⟨b1, j, none⟩ = false := f0
            clear hin hhn hb3 hb4 hws
            go_wp2_with fail
            have hW : (wr.setCell ⟨b1, j, none⟩ (.string ⟨#[115, 112, 111, 105, 108, 116]⟩)) = setL wr b1 j [.string ⟨#[115, 112, 111, 105, 108, 116]⟩] := rfl
            first | rw [hW] | skip
            exact ⟨⟨j + 1, by omega, by go_num, hnx.out⟩, by simp [intOf]; omega⟩
          · obtain rfl : j = ne := by omega
            have hjl' : ¬ (j : Int) < j := by omega
            have hnx := Lib.hid (hin.out.1.next hb1 hb2 [.int .i64 0, .string ⟨#[115, 112, 111, 105, 108, 116]⟩, .int .i64 0, .int .i64 0, .int .i64 0, .slice none 0 0, .slice none 0 0, .int .i64 0, .int .i64 0] rfl)
            obtain ⟨z0, g0⟩ := (hin.out.1.all (j := 0) (by decide)).1
            have f0 := (hin.out.1.all (j := 0) (by decide)).2
            replace g0 : wr.cell? ⟨b, i * 9, none⟩ = some z0 := g0
            replace f0 : wr.frozen? ⟨b, i * 9, none⟩ = false := f0
            obtain ⟨z1, g1⟩ := (hin.out.1.all (j := 1) (by decide)).1
            have f1 := (hin.out.1.all (j := 1) (by decide)).2
            replace g1 : wr.cell? ⟨b, i * 9 + 1, none⟩ = some z1 := g1
            replace f1 : wr.frozen? ⟨b, i * 9 + 1, none⟩ = false := f1
            obtain ⟨z2, g2⟩ := (hin.out.1.all (j := 2) (by decide)).1
            have f2 := (hin.out.1.all (j := 2) (by decide)).2
            replace g2 : wr.cell? ⟨b, i * 9 + 2, none⟩ = some z2 := g2
            replace f2 : wr.frozen? ⟨b, i * 9 + 2, none⟩ = false := f2
            obtain ⟨z3, g3⟩ := (hin.out.1.all (j := 3) (by decide)).1
            have f3 := (hin.out.1.all (j := 3) (by decide)).2
            replace g3 : wr.cell? ⟨b, i * 9 + 3, none⟩ = some z3 := g3
            replace f3 : wr.frozen? ⟨b, i * 9 + 3, none⟩ = false := f3
            obtain ⟨z4, g4⟩ := (hin.out.1.all (j := 4) (by decide)).1
            have f4 := (hin.out.1.all (j := 4) (by decide)).2
            replace g4 : wr.cell? ⟨b, i * 9 + 4, none⟩ = some z4 := g4
            replace f4 : wr.frozen? ⟨b, i * 9 + 4, none⟩ = false := f4
            obtain ⟨z5, g5⟩ := (hin.out.1.all (j := 5) (by decide)).1
            have f5 := (hin.out.1.all (j := 5) (by decide)).2
            replace g5 : wr.cell? ⟨b, i * 9 + 5, none⟩ = some z5 := g5
            replace f5 : wr.frozen? ⟨b, i * 9 + 5, none⟩ = false := f5
            obtain ⟨z6, g6⟩ := (hin.out.1.all (j := 6) (by decide)).1
            have f6 := (hin.out.1.all (j := 6) (by decide)).2
            replace g6 : wr.cell? ⟨b, i * 9 + 6, none⟩ = some z6 := g6
            replace f6 : wr.frozen? ⟨b, i * 9 + 6, none⟩ = false := f6
            obtain ⟨z7, g7⟩ := (hin.out.1.all (j := 7) (by decide)).1
            have f7 := (hin.out.1.all (j := 7) (by decide)).2
            replace g7 : wr.cell? ⟨b, i * 9 + 7, none⟩ = some z7 := g7
            replace f7 : wr.frozen? ⟨b, i * 9 + 7, none⟩ = false := f7
            obtain ⟨z8, g8⟩ := (hin.out.1.all (j := 8) (by decide)).1
            have f8 := (hin.out.1.all (j := 8) (by decide)).2
            replace g8 : wr.cell? ⟨b, i * 9 + 8, none⟩ = some z8 := g8
            replace f8 : wr.frozen? ⟨b, i * 9 + 8, none⟩ = false := f8
            clear hin
            go_wp2_with fail
            have hW : (((((((((wr.setCell ⟨b, i * 9, none⟩ (.int .i64 0)).setCell ⟨b, i * 9 + 1, none⟩ (.string ⟨#[115, 112, 111, 105, 108, 116]⟩)).setCell ⟨b, i * 9 + 2, none⟩ (.int .i64 0)).setCell ⟨b, i * 9 + 3, none⟩ (.int .i64 0)).setCell ⟨b, i * 9 + 4, none⟩ (.int .i64 0)).setCell ⟨b, i * 9 + 5, none⟩ (.slice none 0 0)).setCell ⟨b, i * 9 + 6, none⟩ (.slice none 0 0)).setCell ⟨b, i * 9 + 7, none⟩ (.int .i64 0)).setCell ⟨b, i * 9 + 8, none⟩ (.int .i64 0)) = setL wr b (i * 9) [.int .i64 0, .string ⟨#[115, 112, 111, 105, 108, 116]⟩, .int .i64 0, .int .i64 0, .int .i64 0, .slice none 0 0, .slice none 0 0, .int .i64 0, .int .i64 0] := rfl
            first | rw [hW] | skip
            exact ⟨⟨i + 1, by omega, by go_num, hnx.out⟩, by simp [intOf]; omega⟩
      · obtain rfl : i = n := by omega
        have hlt' : ¬ (i : Int) < i := by omega
        obtain ⟨ws, vs, T, m, k1, k2, k3, k4, k5⟩ := hst.out
        have k6 := Lib.hid (HBw.out.trans k5.b)
        clear k1 k2 k3 k4 k5 hst
        go_wp2_with fail
        go_end0
        exact ⟨⟨_, rfl⟩, k6.out⟩
end
end Go.Proofs.YtkmioieanopafaaDoor
