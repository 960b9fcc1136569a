/- The docs' FewProgram: that it answers. -/
import Derived.Test.YtkmioieanopafaaDoorDocC
namespace Go.Proofs.YtkmioieanopafaaDoor
open Go.RowKit

/-- Some bool is answered. -/
def AnsB (r : Ending) : Prop := ∃ b, r = .returned (.bool b)

set_option maxRecDepth 100000 in
set_option maxHeartbeats 8000000 in
theorem docsFew (ds : List DV) (mn : List SV) (hs : sbk mn + dbk ds ≤ 4000000) (A1 : Option Addr) (c1 : Nat) (A2 : Option Addr) (c2 : Nat) (most : Int) (w : World) (hx : DR w A1 ds) (hy : SR w A2 mn) : Calls Tryd.prog 23 #[pval A1 ds.length c1 A2 mn.length c2, .int .i64 most] w fun r w' => AnsB r ∧ Below w.heap.size w w' := by
  obtain ⟨n, hn⟩ : ∃ n, n = ds.length := ⟨_, rfl⟩
  obtain ⟨m, hm⟩ : ∃ m, m = mn.length := ⟨_, rfl⟩
  unfold pval
  have hbw := bnew5 w (.cells #[.slice A1 ds.length c1, .slice A2 mn.length c2] 41)
  have ha := Box.new w [.slice A1 ds.length c1, .slice A2 mn.length c2] 41
  have hsb := ssz_bk mn
  have hlen : n ≤ 4000000 := by have := dsz_bk ds; have := dsz_len ds; omega
  have hdk : Hid (dbk ds ≤ 4000000) := by show _ ≤ _; omega
  have q1 := Lib.hid (fun W h => docsMany (ssz mn) mn (Nat.le_refl _) (by omega) A2 c2 most 60 W h)
  rw [← hn, ← hm] at ha hbw ⊢
  rw [← hm] at q1
  have HN := Lib.hid (And.intro hn hm)
  clear hn hm hsb hs
  have hx2 := Lib.hid hx
  have hy2 := Lib.hid hy
  clear hx hy
  go_enter Tryd.func23, Tryd.ntmps23
  go_wp2_with fail
  generalize hW0 : w.alloc (.cells #[.slice A1 n c1, .slice A2 m c2] 41) = W0 at *
  have ha := Lib.hid ha
  have hbw := Lib.hid hbw
  clear hW0
  go_loopw [5] (fun u W => ∃ i : Nat, i ≤ n ∧ u = .int .i64 i ∧ W = W0) (fun u _ => n - (intOf u).toNat)
  case atStart => exact ⟨0, by omega, rfl, rfl⟩
  case round =>
    obtain ⟨i, hi, rfl, rfl⟩ := hrel
    have s0 := ha.out.two
    by_cases hlt : i < n
    · have hlt' : (i : Int) < n := by omega
      by_cases hm : (i : Int) ≤ most
      · obtain ⟨ad, d, rfl, hd, P1, pc, P2, pd, e0, e1, e2, e3, e4, e5, e6, e7, e8, -, -⟩ := (hx2.out.step hbw.out).el (i := i) (by rw [← HN.out.1]; exact hlt)
        clear hd e0 e1 e2 e3 e4 e6 e7 e8
        generalize d.ps.length = k at *
        by_cases hk : (40 : Int) < k
        · go_wp2_with fail
          go_ret
          first | exact ⟨⟨_, rfl⟩, hbw.out⟩ | exact hbw.out
        · go_wp2_with fail
          exact ⟨⟨i + 1, by omega, by go_num, by first | rfl | trivial⟩, by simp [intOf]; omega⟩
      · go_wp2_with fail
        go_loopw [6, 7] (fun v u W => ∃ i : Nat, i ≤ n ∧ u = .int .i64 i ∧ (∃ x : Int, v = .int .i64 x) ∧ Hid (Box W w.heap.size [.slice A1 n c1, .slice A2 m c2] ∧ Below w.heap.size w W)) (fun _ u _ => n - (intOf u).toNat)
        case atStart => exact ⟨0, by omega, rfl, ⟨0, rfl⟩, ha.out, hbw.out⟩
        case round =>
          clear s0
          obtain ⟨i, hi, rfl, ⟨x, rfl⟩, hst⟩ := hrel
          have s0 := hst.out.1.two
          by_cases hlt : i < n
          · have hlt' : (i : Int) < n := by omega
            by_cases hm : (i : Int) ≤ most
            · obtain ⟨ad, d, rfl, hd, P1, pc, P2, pd, e0, e1, e2, e3, e4, e5, e6, e7, e8, -, hy'⟩ := (hx2.out.step hst.out.2).el (i := i) (by rw [← HN.out.1]; exact hlt)
              have hdb := dbk_get hd
              have hdl := hdk.out
              unfold dbk1 at hdb
              have hbb := ssz_bk d.body
              have hq := docsMany (ssz d.body) d.body (Nat.le_refl _) (by omega) P2 pd most 60 wr hy'
              clear hd e0 e1 e2 e3 e4 e5 e7 e8 hdb hdl hbb hy'
              generalize d.body.length = k at *
              go_wp2_with fail
              refine hq.mono ?_
              rintro e1 w1 ⟨⟨r, rfl⟩, hb1⟩
              have hst2 : Hid (Box w1 w.heap.size [.slice (some ad) n c1, .slice A2 m c2] ∧ Below w.heap.size w w1) := ⟨hst.out.1.step hb1, bth5 hst.out.2 hb1⟩
              clear hb1 hq
              go_wp2_with fail
              exact ⟨⟨i + 1, by omega, by go_num, ⟨_, rfl⟩, hst2.out⟩, by simp [intOf]; omega⟩
            · by_cases hnm : (n : Int) ≤ most
              · exact absurd hlt' (by omega)
              · go_wp2_with fail
                go_ret
                first | exact ⟨⟨_, rfl⟩, hst.out.2⟩ | exact hst.out.2
          · obtain rfl : i = n := by omega
            have hlt' : ¬ (i : Int) < i := by omega
            by_cases hnm : (i : Int) ≤ most
            · exfalso; omega
            · go_wp2_with fail
              go_ret
              first | exact ⟨⟨_, rfl⟩, hst.out.2⟩ | exact hst.out.2
    · have hlt' : ¬ (i : Int) < n := by omega
      go_wp2_with fail
      clear hlt hlt' hi
      go_loopw [6, 7] (fun v u W => ∃ i : Nat, i ≤ n ∧ u = .int .i64 i ∧ (∃ x : Int, v = .int .i64 x) ∧ Hid (Box W w.heap.size [.slice A1 n c1, .slice A2 m c2] ∧ Below w.heap.size w W)) (fun _ u _ => n - (intOf u).toNat)
      case atStart => exact ⟨0, by omega, rfl, ⟨0, rfl⟩, ha.out, hbw.out⟩
      case round =>
        clear s0
        obtain ⟨i, hi, rfl, ⟨x, rfl⟩, hst⟩ := hrel
        have s0 := hst.out.1.two
        by_cases hlt : i < n
        · have hlt' : (i : Int) < n := by omega
          by_cases hm : (i : Int) ≤ most
          · obtain ⟨ad, d, rfl, hd, P1, pc, P2, pd, e0, e1, e2, e3, e4, e5, e6, e7, e8, -, hy'⟩ := (hx2.out.step hst.out.2).el (i := i) (by rw [← HN.out.1]; exact hlt)
            have hdb := dbk_get hd
            have hdl := hdk.out
            unfold dbk1 at hdb
            have hbb := ssz_bk d.body
            have hq := docsMany (ssz d.body) d.body (Nat.le_refl _) (by omega) P2 pd most 60 wr hy'
            clear hd e0 e1 e2 e3 e4 e5 e7 e8 hdb hdl hbb hy'
            generalize d.body.length = k at *
            go_wp2_with fail
            refine hq.mono ?_
            rintro e1 w1 ⟨⟨r, rfl⟩, hb1⟩
            have hst2 : Hid (Box w1 w.heap.size [.slice (some ad) n c1, .slice A2 m c2] ∧ Below w.heap.size w w1) := ⟨hst.out.1.step hb1, bth5 hst.out.2 hb1⟩
            clear hb1 hq
            go_wp2_with fail
            exact ⟨⟨i + 1, by omega, by go_num, ⟨_, rfl⟩, hst2.out⟩, by simp [intOf]; omega⟩
          · by_cases hnm : (n : Int) ≤ most
            · exact absurd hlt' (by omega)
            · go_wp2_with fail
              go_ret
              first | exact ⟨⟨_, rfl⟩, hst.out.2⟩ | exact hst.out.2
        · obtain rfl : i = n := by omega
          have hlt' : ¬ (i : Int) < i := by omega
          by_cases hnm : (i : Int) ≤ most
          · have hq := q1.out wr (hy2.out.step hst.out.2)
            go_wp2_with fail
            refine hq.mono ?_
            rintro e1 w1 ⟨⟨r, rfl⟩, hb1⟩
            have hst2 := Lib.hid (bth5 hst.out.2 hb1)
            clear hb1 hq
            go_wp2_with fail
            go_ret
            first | exact ⟨⟨_, rfl⟩, hst2.out⟩ | exact hst2.out
          · go_wp2_with fail
            go_ret
            first | exact ⟨⟨_, rfl⟩, hst.out.2⟩ | exact hst.out.2
end Go.Proofs.YtkmioieanopafaaDoor
