/- The laws of layer 5: rows of tokens compared, and turned. -/
import Derived.Test.YthlpldmodflmjaaDoorTokK
namespace Go.Proofs.YthlpldmodflmjaaDoor
open Go.RowKit

/-- One token of a row, in memory. -/
def El (W : World) (p : Addr) (t : TokV) : Prop := W.cell? p = some (.int .i64 t.k) ∧ W.cell? ⟨p.block, p.off + 1, none⟩ = some (.string ⟨t.x.toArray⟩) ∧ W.cell? ⟨p.block, p.off + 2, none⟩ = some (.int .i64 t.n) ∧ W.cell? ⟨p.block, p.off + 3, none⟩ = some (.int .i64 t.l) ∧ W.cell? ⟨p.block, p.off + 4, none⟩ = some (.int .i64 t.c)
theorem cst5 {W W' : World} (hb : Below W.heap.size W W') {p : Addr} {u : Value} (h : W.cell? p = some u) : W'.cell? p = some u :=
  (hb.cell (p := p) (World.block_lt_of_cell? W p h)).trans h
theorem El.step {W W' : World} {p : Addr} {t : TokV} (h : El W p t) (hb : Below W.heap.size W W') : El W' p t := ⟨cst5 hb h.1, cst5 hb h.2.1, cst5 hb h.2.2.1, cst5 hb h.2.2.2.1, cst5 hb h.2.2.2.2⟩
theorem RowT.el {W : World} {A : Option Addr} {n : Nat} {r : List TokV} (h : RowT W A n r) {i : Nat} (hi : i < n) : ∃ ad t, A = some ad ∧ r[i]? = some t ∧ El W (ad.add (i * 5)) t := by
  obtain ⟨ad, t, e, hr, h0, h1, h2, h3, h4⟩ := h.at_ hi
  refine ⟨ad, t, e, hr, h0, ?_, ?_, ?_, ?_⟩
  · have : W.cell? ((ad.add (i * 5)).add 1) = some (.string ⟨t.x.toArray⟩) := by rw [add_of_add]; exact h1
    exact this
  · have : W.cell? ((ad.add (i * 5)).add 2) = some (.int .i64 t.n) := by rw [add_of_add]; exact h2
    exact this
  · have : W.cell? ((ad.add (i * 5)).add 3) = some (.int .i64 t.l) := by rw [add_of_add]; exact h3
    exact this
  · have : W.cell? ((ad.add (i * 5)).add 4) = some (.int .i64 t.c) := by rw [add_of_add]; exact h4
    exact this

set_option maxHeartbeats 4000000 in
theorem lawSameT (A A' : Option Addr) (n c0 c0' : Nat) (r : List TokV) (w : World) (hr : RowT w A n r) (hr' : RowT w A' n r) (hn : n ≤ 100000) : Calls Tryd.prog 14 #[.slice A n c0, .slice A' n c0'] w fun e w' => e = .returned (.bool true) ∧ Below w.heap.size w w' := by
  have hst0 : Hid (Below w.heap.size w w) := Below.refl _ _
  have q1 := fun k x n l c W => lawRefT k x n l c W
  have q1 := Lib.hid q1
  go_enter Tryd.func14, Tryd.ntmps14
  go_wp2_with fail
  go_loopw [5] (fun v W => ∃ i : Nat, i ≤ n ∧ v = .int .i64 i ∧ Hid (Below w.heap.size w W)) (fun v _ => n - (intOf v).toNat)
  case atStart => exact ⟨0, by omega, rfl, hst0⟩
  case round =>
    obtain ⟨i, hi, rfl, hst⟩ := hrel
    clear hst0
    by_cases hlt : i < n
    · have hlt' : (i : Int) < n := by omega
      obtain ⟨ad, ⟨k, x, m, l, c⟩, rfl, hri, h1⟩ := hr.el hlt
      obtain ⟨ad', t', rfl, hri', h2⟩ := hr'.el hlt
      have : (⟨k, x, m, l, c⟩ : TokV) = t' := by
        have := hri.symm.trans hri'
        injection this
      subst this
      have e1 := h1.step hst.out
      have e2 := h2.step hst.out
      have e1 := Lib.hid (e1.step (Below.refl _ _).drew)
      have e2 := Lib.hid (e2.step (Below.refl _ _).drew)
      have s0 := And.intro e1.out e2.out
      unfold El at s0
      simp only at s0
      have q2 := fun W => q1.out k ⟨x.toArray⟩ m l c W
      clear hri hri' h1 h2
      generalize hxs : (⟨x.toArray⟩ : ByteArray) = xs at *
      have E1 : ∀ W, El W (ad.add (i * 5)) ⟨k, x, m, l, c⟩ → (W.cell? (ad.add (i * 5)) = some (.int .i64 k) ∧ W.cell? ⟨(ad.add (i * 5)).block, (ad.add (i * 5)).off + 1, none⟩ = some (.string xs) ∧ W.cell? ⟨(ad.add (i * 5)).block, (ad.add (i * 5)).off + 2, none⟩ = some (.int .i64 m) ∧ W.cell? ⟨(ad.add (i * 5)).block, (ad.add (i * 5)).off + 3, none⟩ = some (.int .i64 l) ∧ W.cell? ⟨(ad.add (i * 5)).block, (ad.add (i * 5)).off + 4, none⟩ = some (.int .i64 c)) := fun W h => by rw [← hxs]; exact h
      have E2 : ∀ W, El W (ad'.add (i * 5)) ⟨k, x, m, l, c⟩ → (W.cell? (ad'.add (i * 5)) = some (.int .i64 k) ∧ W.cell? ⟨(ad'.add (i * 5)).block, (ad'.add (i * 5)).off + 1, none⟩ = some (.string xs) ∧ W.cell? ⟨(ad'.add (i * 5)).block, (ad'.add (i * 5)).off + 2, none⟩ = some (.int .i64 m) ∧ W.cell? ⟨(ad'.add (i * 5)).block, (ad'.add (i * 5)).off + 3, none⟩ = some (.int .i64 l) ∧ W.cell? ⟨(ad'.add (i * 5)).block, (ad'.add (i * 5)).off + 4, none⟩ = some (.int .i64 c)) := fun W h => by rw [← hxs]; exact h
      have E1 := Lib.hid E1
      have E2 := Lib.hid E2
      have hbw := hst.out.drew
      clear hxs hst
      go_wp2_with fail
      go_region_held3 (fun w' => (w'.cell? (ad.add (i * 5)) = some (.int .i64 k) ∧ w'.cell? ⟨(ad.add (i * 5)).block, (ad.add (i * 5)).off + 1, none⟩ = some (.string xs) ∧ w'.cell? ⟨(ad.add (i * 5)).block, (ad.add (i * 5)).off + 2, none⟩ = some (.int .i64 m) ∧ w'.cell? ⟨(ad.add (i * 5)).block, (ad.add (i * 5)).off + 3, none⟩ = some (.int .i64 l) ∧ w'.cell? ⟨(ad.add (i * 5)).block, (ad.add (i * 5)).off + 4, none⟩ = some (.int .i64 c)) ∧
          w'.cell? (ad'.add (i * 5)) = some (.int .i64 k) ∧ w'.cell? ⟨(ad'.add (i * 5)).block, (ad'.add (i * 5)).off + 1, none⟩ = some (.string xs) ∧ w'.cell? ⟨(ad'.add (i * 5)).block, (ad'.add (i * 5)).off + 2, none⟩ = some (.int .i64 m) ∧ w'.cell? ⟨(ad'.add (i * 5)).block, (ad'.add (i * 5)).off + 3, none⟩ = some (.int .i64 l) ∧ w'.cell? ⟨(ad'.add (i * 5)).block, (ad'.add (i * 5)).off + 4, none⟩ = some (.int .i64 c)) (first | with_reducible exact s0 | with_reducible exact s1)
        (first
          | (go_at_call 11
             with_reducible refine (q2 wr.drew).mono ?_
             rintro e w2 ⟨rfl, hb2⟩
             have s1 := And.intro (E1.out _ (e1.out.step hb2)) (E2.out _ (e2.out.step hb2))
             have hbf := Lib.hid (bth5 hbw hb2)))
      all_goals
        (go_wp2_with fail
         exact ⟨⟨i + 1, by omega, by go_num, hbf⟩, by simp [intOf]; omega⟩)
    · have hi2 : i = n := by omega
      have hlt' : ¬ (i : Int) < n := by omega
      have hbf := hst.out
      clear hi2 hlt hst
      go_wp2_with fail
      go_ret
      exact ⟨rfl, hbf⟩

set_option maxHeartbeats 4000000 in
theorem lawRefs (A : Option Addr) (n c0 : Nat) (r : List TokV) (w : World) (hr : RowT w A n r) (hn : n ≤ 100000) : Calls Tryd.prog 15 #[.slice A n c0] w fun e w' => ∃ v, e = .returned v ∧ GrowT w v r w' := by
  have hst0 : Hid (GrowT w (.slice none 0 0) (r.take 0) w) := GrowT.start w
  have q1 := fun k x n l c W => lawRefT k x n l c W
  have q1 := Lib.hid q1
  go_enter Tryd.func15, Tryd.ntmps15
  go_wp2_with fail
  go_loopw [3, 4] (fun u v W => ∃ i : Nat, i ≤ n ∧ v = .int .i64 i ∧ Hid (GrowT w u (r.take i) W)) (fun _ v _ => n - (intOf v).toNat)
  case atStart => exact ⟨0, by omega, rfl, hst0⟩
  case round =>
    obtain ⟨i, hi, rfl, hst⟩ := hrel
    clear hst0
    by_cases hlt : i < n
    · have hlt' : (i : Int) < n := by omega
      obtain ⟨ad, ⟨k, x, m, l, c⟩, rfl, hri, h1⟩ := hr.el hlt
      have e1 := h1.step hst.out.2
      have d0 := e1.1
      have d1 := e1.2.1
      have d2 := e1.2.2.1
      have d3 := e1.2.2.2.1
      have d4 := e1.2.2.2.2
      simp only at d0 d1 d2 d3 d4
      have HT : Hid (r.take (i + 1) = r.take i ++ [(⟨k, x, m, l, c⟩ : TokV)]) := by show _ = _; rw [List.take_add_one, hri]; rfl
      have q2 := fun W => q1.out k ⟨x.toArray⟩ m l c W
      have hlen : (r.take i).length ≤ 1000000000 := by rw [List.length_take]; omega
      clear hri h1 e1
      go_wp2_with fail
      refine (q2 _).mono ?_
      rintro e w1 ⟨rfl, hb1⟩
      have hg1 := Lib.hid (hst.out.step hb1)
      clear hst hb1 d0 d1 d2 d3 d4 q2
      go_wp2_with (first
        | (at_builtin
           refine wpList_pushT rfl (.tmp 11) (.tmp 17) rfl _ (r.take i) ⟨k, x, m, l, c⟩ w _ rfl hg1.out rfl ?hl ?_
           case hl => exact hlen
           intro v' w2 hg2 hkeep
           have hg2 := Lib.hid hg2
           clear hkeep))
      exact ⟨⟨i + 1, by omega, by go_num, by show GrowT w v' (r.take (i + 1)) w2; rw [HT.out]; exact hg2.out⟩, by simp [intOf]; omega⟩
    · have hi2 : i = n := by omega
      have hlt' : ¬ (i : Int) < n := by omega
      have htk : r.take i = r := List.take_of_length_le (by have := hr.1; omega)
      rw [htk] at hst
      have hgf := hst.out
      clear htk hi2 hlt hst
      go_wp2_with fail
      go_ret
      exact ⟨_, rfl, hgf⟩
end Go.Proofs.YthlpldmodflmjaaDoor
