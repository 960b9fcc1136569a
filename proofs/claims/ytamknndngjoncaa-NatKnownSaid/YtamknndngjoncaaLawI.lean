/- The contract of the law's 'is': a number is the reference's. -/
import Derived.Test.YtamknndngjoncaaRefC
import Derived.Test.YtamknndngjoncaaNatF
import Derived.Test.YtamknndngjoncaaLawW
namespace Go.Proofs.Ytamknndngjoncaa
open Go.RowKit

theorem last_ne {l : List Nat} {n : Nat} (hl : n = l.length) (h : Dig.Norm l) (hn : 0 < n) : Dig.at_ l (n - 1) ≠ 0 := by
  have hne : l ≠ [] := by rintro rfl; simp at hl; omega
  have e : l = l.dropLast ++ [l.getLast hne] := (List.dropLast_concat_getLast hne).symm
  have h2 : l.getLast hne ≠ 0 := by rw [e] at h; exact Dig.norm_last h
  rw [Dig.at_lt (by omega)]
  have e3 : l[n - 1]'(by omega) = l.getLast hne := by rw [List.getLast_eq_getElem]; congr 1; omega
  rw [e3]
  exact h2

set_option maxHeartbeats 2000000 in
theorem isYes {A A' : Option Addr} {n c n' c' N b b' : Nat} {w : World} (hM : Num w b A n c N) (hN : RNum w b' A' n' c' N) (hn : n ≤ 1000000) :
    Calls Try.prog 12 #[.agg #[.slice A n c], .slice A' n' c'] w fun e w' => e = .returned (.bool true) ∧ Below w.heap.size w w' := by
  obtain ⟨l, h1, h2, h3, h4, h5, h6, h7, h8⟩ := hM
  have hl := Lib.hid h1.len
  have hv := Lib.hid h4
  have hlast := Lib.hid (fun h => last_ne h1.len h2 h)
  have hst0 : Hid (Below w.heap.size w (w.alloc (.cells #[.slice A n c] 28))) := (Below.refl _ _).alloc (Nat.le_refl _) _
  clear h2 h4 h7 h8
  go_enter Try.func12, Try.ntmps12
  go_wp2_with fail
  go_loopw [5, 6, 7] (fun tv _ _ wr => ∃ t : Nat, t ≤ 2 ∧ tv = .int .i64 t ∧ Below w.heap.size w wr ∧ wr.cell? ⟨w.heap.size, 0, none⟩ = some (.slice A n c) ∧ w.heap.size < wr.heap.size) (fun tv _ _ _ => 2 - (intOf tv).toNat)
  case atStart => exact ⟨0, by omega, rfl, hst0.out, by simp [go_sem], by simp⟩
  case round =>
    obtain ⟨t, ht, rfl, hb, hbox, hsz⟩ := hrel
    clear hst0
    by_cases hlt : t < 2
    · have r1 := (h1.below hb).more hb.size
      go_wp2_with fail
      refine (natAll A n c l _ r1 h5 (by omega)).mono ?_
      rintro e w1 ⟨A1, c1, rfl, hown1, hb1, hz1⟩
      have hs1 := hb1.size
      have hbox1 : w1.cell? ⟨w.heap.size, 0, none⟩ = some (.slice A n c) := (hb1.cell (p := ⟨w.heap.size, 0, none⟩) hsz).trans hbox
      have hw1 : Below w.heap.size w w1 := hb.trans (hb1.mono (by omega))
      have rown := hown1.row
      have hcap := hown1.cap
      rcases Nat.eq_zero_or_pos n with h0 | h0
      · subst h0
        go_wp2_with fail
        refine (natLen A 0 c _).mono ?_
        rintro e w2 ⟨rfl, hb2⟩
        go_wp2_with fail
        refine (refOf A1 0 c1 l _ ((rown.below hb2).more hb2.size) h3 (by omega)).mono ?_
        rintro e w3 ⟨A3, n3, c3, rfl, hr3, hn3, hb3⟩
        rw [hv.out] at hr3
        have hw3 : Below w.heap.size w w3 := bstep0 (bstep0 hw1 hb2) hb3
        go_wp2_with fail
        refine (refSame hr3 (hN.below hw3) rfl).mono ?_
        rintro e w4 ⟨rfl, hb4⟩
        have hw4 : Below w.heap.size w w4 := bstep0 hw3 hb4
        have hbox4 : w4.cell? ⟨w.heap.size, 0, none⟩ = some (.slice A 0 c) := (((hb2.trans (hb3.mono hb2.size)).trans (hb4.mono (Nat.le_trans hb2.size hb3.size))).cell (p := ⟨w.heap.size, 0, none⟩) (by show w.heap.size < w1.heap.size; omega)).trans hbox1
        have hs4 : w.heap.size < w4.heap.size := by have := hb2.size; have := hb3.size; have := hb4.size; omega
        clear hb2 hb3 hb4 hr3 rown hown1 hbox1 hw1 hw3 hb hbox hz1
        go_wp2_with fail
        obtain ⟨wi, rfl⟩ : ∃ wi : World, wi = w4 := ⟨_, rfl⟩
        go_loopw [7] (fun iv wr => ∃ k : Nat, k ≤ 0 ∧ iv = .int .i64 k ∧ Below w.heap.size w wr ∧ wr.cell? ⟨w.heap.size, 0, none⟩ = some (.slice A 0 c) ∧ w.heap.size < wr.heap.size ∧ (0 < 0 → ∃ g cur, (⟨0, 0, none⟩ : Addr) = ⟨g, 0, none⟩ ∧ w.heap.size < g ∧ wr.heap[g]? = some (.cells cur 23 (0, 0)) ∧ 0 ≤ cur.size)) (fun iv _ => 0 - (intOf iv).toNat)
        case atStart => exact ⟨0, by omega, rfl, hw4, hbox4, hs4, fun h => absurd h (by omega)⟩
        case round =>
          obtain ⟨k, hk, rfl, hb5, hbox5, hs5, hex⟩ := hrel
          by_cases hlt2 : k < 0
          · exfalso; omega
          · obtain rfl : k = 0 := by omega
            clear hex 
            go_wp2_with fail
            refine ⟨⟨t + 1, by omega, by go_num, hb5, hbox5, hs5⟩, by simp [intOf]; omega⟩
      · have hne : (((Dig.at_ l (n - 1) : Nat) : Int) == 0) = false := by have := hlast.out h0; simpa using this
        obtain ⟨ad, rfl, hadb, hc2⟩ := rown.at_ (i := n - 1) (by omega)
        have hcap2 : (n - 1 : Nat) < n := by omega
        have hi1 : IntKind.i64.wrap ((n : Int) - 1) = (n : Int) - 1 := IntWalk.i64_in _ (by omega)
        have hi2 : ((n : Int) - 1).toNat = n - 1 := by omega
        have hi3 : (0 : Int) ≤ (n : Int) - 1 := by omega
        have hpos : (0 : Int) < n := by omega
        go_wp2_with fail
        refine (natLen A n c _).mono ?_
        rintro e w2 ⟨rfl, hb2⟩
        have hc3 : w2.cell? (ad.add (n - 1)) = some (.int .u64 ((Dig.at_ l (n - 1) : Nat) : Int)) := (hb2.cell (by rw [block_of_add]; exact hadb)).trans hc2
        go_wp2_with fail
        refine (refOf (some ad) n c1 l _ ((rown.below hb2).more hb2.size) h3 (by omega)).mono ?_
        rintro e w3 ⟨A3, n3, c3, rfl, hr3, hn3, hb3⟩
        rw [hv.out] at hr3
        have hw3 : Below w.heap.size w w3 := bstep0 (bstep0 hw1 hb2) hb3
        go_wp2_with fail
        refine (refSame hr3 (hN.below hw3) rfl).mono ?_
        rintro e w4 ⟨rfl, hb4⟩
        have hw4 : Below w.heap.size w w4 := bstep0 hw3 hb4
        have hbox4 : w4.cell? ⟨w.heap.size, 0, none⟩ = some (.slice A n c) := (((hb2.trans (hb3.mono hb2.size)).trans (hb4.mono (Nat.le_trans hb2.size hb3.size))).cell (p := ⟨w.heap.size, 0, none⟩) (by show w.heap.size < w1.heap.size; omega)).trans hbox1
        have hs4 : w.heap.size < w4.heap.size := by have := hb2.size; have := hb3.size; have := hb4.size; omega
        have hown4 := ((hown1.below hb2 (Nat.le_refl _)).below hb3 (Nat.le_refl _)).below hb4 (Nat.le_refl _)
        have hcur : Hid (∃ g cur, ad = ⟨g, 0, none⟩ ∧ w.heap.size < g ∧ w4.heap[g]? = some (.cells cur 23 (0, 0)) ∧ n ≤ cur.size) := by
          rcases hown4.2 with ⟨hv1, h01⟩ | ⟨g, cap, cur, hv1, hg, hh, hnc, hm, hcs, _⟩
          · omega
          · injection hv1 with e1 e2 e3
            injection e1 with e1
            exact ⟨g, cur, e1, by omega, hh, by omega⟩
        clear hb2 hb3 hb4 hr3 rown hown1 hbox1 hw1 hw3 hb hbox hz1 hown4 hc2 hc3 hadb hne hi1 hi2 hi3
        go_wp2_with fail
        obtain ⟨wi, rfl⟩ : ∃ wi : World, wi = w4 := ⟨_, rfl⟩
        go_loopw [7] (fun iv wr => ∃ k : Nat, k ≤ n ∧ iv = .int .i64 k ∧ Below w.heap.size w wr ∧ wr.cell? ⟨w.heap.size, 0, none⟩ = some (.slice A n c) ∧ w.heap.size < wr.heap.size ∧ (0 < n → ∃ g cur, ad = ⟨g, 0, none⟩ ∧ w.heap.size < g ∧ wr.heap[g]? = some (.cells cur 23 (0, 0)) ∧ n ≤ cur.size)) (fun iv _ => n - (intOf iv).toNat)
        case atStart => exact ⟨0, by omega, rfl, hw4, hbox4, hs4, fun _ => hcur.out⟩
        case round =>
          obtain ⟨k, hk, rfl, hb5, hbox5, hs5, hex⟩ := hrel
          by_cases hlt2 : k < n
          · obtain ⟨g, cur, rfl, hgg, hh, hcs⟩ := hex h0
            have hkc : k < cur.size := by omega
            have hcell : wr.cell? ⟨g, k, none⟩ = some cur[k] := by
              rw [cell_of_row wr g k cur _ (0, 0) hh]; simp [hkc]
            have hfro : wr.frozen? ⟨g, k, none⟩ = false := by simp [World.frozen?, hh]
            have hnew : Hid (∃ g' cur', (⟨g, 0, none⟩ : Addr) = ⟨g', 0, none⟩ ∧ w.heap.size < g' ∧ (wr.setCell ⟨g, k, none⟩ (.int .u64 7)).heap[g']? = some (.cells cur' 23 (0, 0)) ∧ n ≤ cur'.size) :=
              ⟨g, cur.setIfInBounds k (.int .u64 7), rfl, hgg, by simp [World.setCell, Array.getElem?_modify, hh], by simpa using hcs⟩
            have hbx : Hid ((wr.setCell ⟨g, k, none⟩ (.int .u64 7)).cell? ⟨w.heap.size, 0, none⟩ = some (.slice A n c)) := (World.cell?_setCell_other _ _ _ _ (fun e => by injection e; omega)).trans hbox5
            have hbw : Hid (Below w.heap.size w (wr.setCell ⟨g, k, none⟩ (.int .u64 7))) := hb5.setCell (Nat.le_of_lt hgg) _
            have hsw : Hid (w.heap.size < (wr.setCell ⟨g, k, none⟩ (.int .u64 7)).heap.size) := by show _ < _; simpa [World.setCell] using hs5
            have hk1 : (k : Int) < n := by omega
            clear hex hh hcur
            go_wp2_with fail
            refine ⟨⟨k + 1, by omega, by go_num, hbw.out, hbx.out, hsw.out, fun _ => hnew.out⟩, by simp [intOf]; omega⟩
          · obtain rfl : k = n := by omega
            clear hex hcur
            go_wp2_with fail
            refine ⟨⟨t + 1, by omega, by go_num, hb5, hbox5, hs5⟩, by simp [intOf]; omega⟩
    · obtain rfl : t = 2 := by omega
      go_wp2_with fail
      go_ret
      exact ⟨rfl, hb⟩
end Go.Proofs.Ytamknndngjoncaa
