/- The contract of deci's Parse. -/
import Derived.Test.YthcglobehoaocaaDoorDeciH
namespace Go.Proofs.YthcglobehoaocaaDoor
open Go.RowKit

/-- What Parse answers of a text of digits that counts V. -/
def ParseEnd (c0 : Int) (V L : Nat) (w : World) (e : Ending) (w' : World) : Prop :=
  ((Fit c0 V ∧ ∃ A1 n1 c1, e = .returned (.tuple #[.agg #[.slice A1 n1 c1], .int .i64 0]) ∧ Num w' w.heap.size A1 n1 c1 V ∧ n1 ≤ L) ∨ (¬ Fit c0 V ∧ e = .returned (.tuple #[.agg #[.slice none 0 0], .int .i64 10]))) ∧ Below w.heap.size w w'

set_option maxHeartbeats 4000000 in
theorem parse_good (s : ByteArray) (c0 : Int) (w : World) (hgood : allDig s) (hb : lead s true) (hs : s.size ≤ 1000000) :
    Calls Tryd.prog 20 #[.string s, .int .i64 c0] w (ParseEnd c0 (dval s.data.toList) s.size w) := by
  have hare := fun w => areDigits_good s true w hgood hb
  have hV : Hid (dval s.data.toList < 10 ^ s.size) := by
    have := dval_lt s.data.toList fun c hc => by
      obtain ⟨i, hi, rfl⟩ := List.getElem_of_mem hc
      exact hgood i (by simpa using hi)
    have hl : s.data.toList.length = s.size := Array.length_toList
    rw [hl] at this
    exact this
  have Hgood := Lib.hid hgood
  generalize hVe : dval s.data.toList = V at *
  have HVe := Lib.hid hVe
  clear hgood hb hVe
  go_enter Tryd.func20, Tryd.ntmps20
  go_wp2_with fail
  refine (hare _).mono ?_
  rintro e wa ⟨rfl, hba⟩
  have hb1 : Below w.heap.size w wa := ((Below.refl _ _).alloc (Nat.le_refl _) _).trans (hba.mono (by simp))
  obtain ⟨hc4, hf4⟩ := bcell1 (b := w.heap.size) (o := 0) hba (v := .slice none 0 0) (by simp [go_sem]) (by simp [go_sem])
  have hlt4 : w.heap.size < wa.heap.size := World.block_lt_of_cell? wa ⟨w.heap.size, 0, none⟩ hc4
  have hst0 : Hid (ParseAt w w.heap.size wa.heap.size c0 V s.size 0 none 0 0 s (wa.alloc (.cells #[.slice none 0 0] 26))) := by
    refine ⟨⟨by rw [World.cell?_alloc_past _ _ _ hlt4]; exact hc4, by rw [World.frozen?_alloc_past _ _ _ hlt4]; exact hf4⟩, ⟨by simp [go_sem], by simp [go_sem]⟩, Num.zero _ _, ?_, Hgood.out, by rw [HVe.out]; omega, .inl rfl, Nat.le_refl _, hb1.alloc hb1.size _⟩
    unfold Fit
    exact Nat.pow_pos LB_pos
  clear hc4 hf4 hba hare
  go_wp2_with fail
  go_loopw [0] (fun sv wr => ∃ (rem : ByteArray) (N n c : Nat) (A : Option Addr), sv = .string rem ∧ ParseAt w w.heap.size wa.heap.size c0 V s.size N A n c rem wr) (fun sv _ => match sv with | .string r => r.size | _ => 0)
  case atStart => exact ⟨s, 0, 0, 0, none, rfl, hst0.out⟩
  case round =>
    obtain ⟨rem, N, n, c, A, rfl, hst⟩ := hrel
    by_cases hrem : 0 < rem.size
    · have hne : rem.toList.isEmpty = false := by
        rw [ByteArray.toList_eq]
        have hl : rem.data.toList.length = rem.size := Array.length_toList
        cases hd : rem.data.toList with
        | nil => rw [hd] at hl; simp at hl; omega
        | cons x y => rfl
      have hPre : Pre w w.heap.size wa.heap.size A n c wr := ⟨hst.res, hst.var, hst.below, Nat.le_refl _, hlt4, World.block_lt_of_cell? wr ⟨wa.heap.size, 0, none⟩ hst.var.1⟩
      have Hst := Lib.hid hst
      have HPre := Lib.hid hPre
      have hc6d : wr.drew.cell? ⟨wa.heap.size, 0, none⟩ = some (.slice A n c) := hst.var.1
      have hPd := hPre.drew
      have hNd : Num wr.drew (wa.heap.size + 1) A n c N := hst.num
      have hNV : N * 10 ^ rem.size ≤ V := by have := hst.val; omega
      have hnle : n ≤ 1000000 := by
        refine Nat.le_trans (num_len hst.num (Nat.lt_of_le_of_lt (Nat.le_trans (Nat.le_mul_of_pos_right N (Nat.pow_pos (by omega))) hNV) hV.out)) hs
      have hremL := hst.len
      obtain ⟨wd, hwd⟩ : ∃ wd : Nat, wd = (rem.size - 1) % 19 + 1 := ⟨_, rfl⟩
      have hcut0 := cut_of rem wd hrem hst.dig hwd
      obtain ⟨row, hrow⟩ : ∃ row : ByteArray, row = rem.extract 0 wd := ⟨_, rfl⟩
      obtain ⟨rest, hrest⟩ : ∃ rest : ByteArray, rest = rem.extract wd rem.size := ⟨_, rfl⟩
      rw [← hrow, ← hrest] at hcut0
      have hcut := Lib.hid hcut0
      have hrv := fun w => rowValue row w hcut0.rowDig hcut0.rowLen
      have hrlt := Nat.lt_trans (cut_row_lt hcut0) TT_lt
      have hof := fun w => natOf (dval row.data.toList) hrlt w
      have Hrl := Lib.hid hrlt
      have hwdl : wd ≤ rem.size := by omega
      clear hNV hcut0 hrlt
      have hl6 := hPd.lt6
      have hld : wr.drew.heap.size = wr.heap.size := rfl
      clear hst hst0 hPre
      obtain ⟨ti, hti⟩ : ∃ ti : Int, ti = (((rem.size - 1) % 19 : Nat) : Int) := ⟨_, rfl⟩
      have hsz1 : ((rem.size : Int) - 1).tmod 19 = ti := by
        rw [show (rem.size : Int) - 1 = ((rem.size - 1 : Nat) : Int) by omega, hti]
        rfl
      have hlen1 : (rem.size : Int) ≤ 1000000 := by omega
      have hwi2 : ti + 1 = (wd : Int) := by omega
      have ht0 : 0 ≤ ti := by omega
      have ht1 : ti < 19 := by omega
      have HW := Lib.hid hwd
      have HR := Lib.hid hrow
      have HE := Lib.hid hrest
      clear hti hwd hrow hrest hremL
      go_wp2_with fail
      rename_i K hK
      have key : ∀ (g8 : Nat) (ok : Bool) (A3 : Option Addr) (n3 c3 N3 : Nat) (x23 x25 x26 x27 x28 x29 : Value) (W7 : World), Mid w w.heap.size wa.heap.size c0 (N * TT) N3 ok A n c g8 A3 n3 c3 W7 → n3 ≤ 1000001 →
          K { tmps := #[.string rem, .int .i64 c0, undef, undef, .pointer (some ⟨w.heap.size, 0, none⟩), u5, .pointer (some ⟨wa.heap.size, 0, none⟩), .int .i64 (wd : Int), .pointer (some ⟨g8, 0, none⟩), .bool ok, u10, u11, .string s, .bool true, .bool false, undef, .string rem, .bool true, .string rem, .int .i64 (rem.size : Int), .int .i64 ((rem.size : Int) - 1), .int .i64 ti, .int .i64 (wd : Int), x23, .int .i64 c0, x25, x26, x27, x28, x29, u30, u31, u32, u33, u34, u35, u36, u37, u38, u39, u40, u41, u42, u43, u44, u45, u46, u47, u48, u49, u50, u51, undef], defers := [] } W7 := by
        intro g8 ok A3 n3 c3 N3 x23 x25 x26 x27 x28 x29 W7 hM hn3
        refine hK _ _ ?_
        clear hK
        have HM := Lib.hid hM
        have hPre7 : Pre w w.heap.size wa.heap.size A n c W7 := ⟨hM.res, hM.var, hM.below, Nat.le_refl _, hlt4, World.block_lt_of_cell? W7 ⟨wa.heap.size, 0, none⟩ hM.var.1⟩
        have hPd7 := hPre7.drew
        have hN7 : Num W7.drew (wa.heap.size + 1) A3 n3 c3 N3 := hM.num
        have hc8 : W7.drew.cell? ⟨g8, 0, none⟩ = some (.slice A3 n3 c3) := hM.box
        have hl8 : g8 < W7.heap.size := World.block_lt_of_cell? W7 ⟨g8, 0, none⟩ hM.box
        have hl7 := hPre7.lt6
        have hld7 : W7.drew.heap.size = W7.heap.size := rfl
        clear hM hPd hNd hc6d
        have hrow : rem.extract 0 wd = row := HR.out.symm
        go_wp2_with fail
        rename_i K2 hK2
        have key2 : ∀ (g10 : Nat) (ok2 : Bool) (A4 : Option Addr) (n4 c4 N4 : Nat) (y30 y32 y36 y37 y38 y39 y40 : Value) (W8 : World), Mid w w.heap.size wa.heap.size c0 (N3 + dval row.data.toList) N4 ok2 A n c g10 A4 n4 c4 W8 →
            K2 { tmps := #[.string rem, .int .i64 c0, undef, undef, .pointer (some ⟨w.heap.size, 0, none⟩), u5, .pointer (some ⟨wa.heap.size, 0, none⟩), .int .i64 (wd : Int), .pointer (some ⟨g8, 0, none⟩), .bool ok, .pointer (some ⟨g10, 0, none⟩), .bool ok2, .string s, .bool true, .bool false, undef, .string rem, .bool true, .string rem, .int .i64 (rem.size : Int), .int .i64 ((rem.size : Int) - 1), .int .i64 ti, .int .i64 (wd : Int), x23, .int .i64 c0, x25, x26, x27, x28, x29, y30, .int .i64 c0, y32, .string rem, .int .i64 (wd : Int), .string row, y36, y37, y38, y39, y40, u41, u42, u43, u44, u45, u46, u47, u48, u49, u50, u51, undef], defers := [] } W8 := by
          intro g10 ok2 A4 n4 c4 N4 y30 y32 y36 y37 y38 y39 y40 W8 hM8
          refine hK2 _ _ ?_
          clear hK2
          have H8 := Lib.hid hM8
          have hr1 := hM8.res.1
          have hr2 := hM8.res.2
          have hv1 := hM8.var.1
          have hv2 := hM8.var.2
          have hb8 := hM8.box
          have hrest2 : rem.extract wd rem.size = rest := HE.out.symm
          clear hM8 hPd7 hN7 hc8 hPre7
          cases ok
          · have hno := (HM.out.no rfl).1
            go_wp2_with fail
            refine bodyPost_ret (v := .tuple #[.agg #[.slice none 0 0], .int .i64 10]) (by simp [results, Tryd.results20, go_sem, hr1]) rfl ?_
            exact ⟨.inr ⟨fit_fail hcut.out Hst.out.val Hst.out.rows (fun h => hno (h.mono (Nat.le_add_right _ _))), rfl⟩, H8.out.below.setCell (p := ⟨w.heap.size, 0, none⟩) (Nat.le_refl _) _⟩
          · obtain ⟨-, y2⟩ := HM.out.yes rfl
            subst y2
            cases ok2
            · have hno := (H8.out.no rfl).1
              go_wp2_with fail
              refine bodyPost_ret (v := .tuple #[.agg #[.slice none 0 0], .int .i64 10]) (by simp [results, Tryd.results20, go_sem, hr1]) rfl ?_
              exact ⟨.inr ⟨fit_fail hcut.out Hst.out.val Hst.out.rows hno, rfl⟩, H8.out.below.setCell (p := ⟨w.heap.size, 0, none⟩) (Nat.le_refl _) _⟩
            · have hnext := Lib.hid (parse_next Hst.out hcut.out H8.out hlt4 (Nat.le_refl _))
              have hless := Lib.hid hcut.out.restLen
              go_wp2_with fail
              go_region
              go_wp2_with fail
              exact ⟨⟨rest, _, n4, c4, A4, rfl, hnext.out.drew⟩, hless.out⟩
        go_region_held3 (fun w' => w'.cell? ⟨g8, 0, none⟩ = some (.slice A3 n3 c3)) (first | exact hc8 | exact kc6 | exact kc5 | exact kc4 | exact (World.cell?_alloc_past (w := W7) _ _ _ hl8).trans hc8 | exact (World.cell?_alloc_past _ _ _ (show g8 < w6.heap.size by omega)).trans kc6 | exact (World.cell?_alloc_past _ _ _ (show g8 < w5.heap.size by omega)).trans kc5 | exact (World.cell?_alloc_past _ _ _ (show g8 < w4.heap.size by omega)).trans kc4 | (rw [World.cell?_setCell_other _ _ _ _ (by intro e; injection e; omega)]; exact kc6))
          (first
            | (go_at_call 44
               with_reducible refine (hrv W7.drew).mono ?_
               rintro e w4 ⟨rfl, kb4⟩
               have kp4 := hPd7.step kb4
               have kn4 := hN7.below kb4
               have kc4 := (kb4.cell (p := ⟨g8, 0, none⟩) (show g8 < _ by omega)).trans hc8
               have ks4 := kb4.size)
            | (go_at_call 44
               with_reducible refine (hrv (W7.alloc _).drew).mono ?_
               rintro e w4 ⟨rfl, kb4⟩
               have kp4X := (hPd7.alloc (.cells #[.slice none 0 0] 26)).step kb4
               have kn4X := (hN7.alloc (.cells #[.slice none 0 0] 26)).below kb4
               have kc4 : w4.cell? ⟨g8, 0, none⟩ = some (.slice A3 n3 c3) := (kb4.cell (p := ⟨g8, 0, none⟩) (by show g8 < (W7.alloc _).heap.size; simp; omega)).trans ((World.cell?_alloc_past (w := W7) _ _ _ (show g8 < _ by omega)).trans hc8)
               have ks4 : W7.heap.size + 1 ≤ w4.heap.size := by have := kb4.size; simpa using this
               obtain ⟨kx4, ky4⟩ := bcell1 kb4 (b := W7.heap.size) (o := 0) (v := .slice none 0 0) (World.cell?_alloc_at (w := W7) #[.slice none 0 0] 26 _ 0 rfl) (World.frozen?_alloc_at (w := W7) #[.slice none 0 0] 26 _ 0 rfl))
            | (go_at_call 27
               with_reducible refine (hof w4).mono ?_
               rintro e w5 ⟨A5, n5, c5, rfl, knum5, kl5, kb5⟩
               have kp5 := kp4.step kb5
               have kn5 := kn4.below kb5
               have kc5 := (kb5.cell (p := ⟨g8, 0, none⟩) (show g8 < _ by omega)).trans kc4
               have ks5 := kb5.size)
            | (go_at_call 27
               with_reducible refine (hof w4).mono ?_
               rintro e w5 ⟨A5, n5, c5, rfl, knum5X, kl5, kb5⟩
               have kp5X := kp4X.step kb5
               have kn5X := kn4X.below kb5
               have kc5 := (kb5.cell (p := ⟨g8, 0, none⟩) (show g8 < _ by omega)).trans kc4
               obtain ⟨kx5, ky5⟩ := bcell1 kb5 kx4 ky4
               have ks5 := kb5.size)
            | (go_at_call 27
               with_reducible refine (hof (w4.alloc _)).mono ?_
               rintro e w5 ⟨A5, n5, c5, rfl, knum5Y, kl5, kb5⟩
               have kp5Y := (kp4.alloc (.cells #[.slice none 0 0] 26)).step kb5
               have kn5Y := (kn4.alloc (.cells #[.slice none 0 0] 26)).below kb5
               have kc5 : w5.cell? ⟨g8, 0, none⟩ = some (.slice A3 n3 c3) := (kb5.cell (p := ⟨g8, 0, none⟩) (by simp; omega)).trans ((World.cell?_alloc_past _ _ _ (show g8 < _ by omega)).trans kc4)
               have ks5 : w4.heap.size + 1 ≤ w5.heap.size := by have := kb5.size; simpa using this
               obtain ⟨kx5, ky5⟩ := bcell1 kb5 (b := w4.heap.size) (o := 0) (v := .slice none 0 0) (World.cell?_alloc_at (w := w4) #[.slice none 0 0] 26 _ 0 rfl) (World.frozen?_alloc_at (w := w4) #[.slice none 0 0] 26 _ 0 rfl))
            | (go_at_call 43
               with_reducible refine (capAddAny c0 kn5 knum5 ?h1 ?h2).mono ?_
               case h1 => omega
               case h2 => omega
               rintro e w6 ⟨A6, n6, c6, N6, ok2, rfl, knum6, kl6, kyes, kno, kb6⟩
               have kp6 := kp5.step kb6
               have kc6 := (kb6.cell (p := ⟨g8, 0, none⟩) (show g8 < _ by omega)).trans kc5
               have ks6 := kb6.size)
            | (go_at_call 43
               with_reducible refine (capAddAny c0 kn5X knum5X ?h1 ?h2).mono ?_
               case h1 => omega
               case h2 => omega
               rintro e w6 ⟨A6, n6, c6, N6, ok2, rfl, knum6, kl6, kyes, kno, kb6⟩
               have kp6 := kp5X.step kb6
               have kc6 := (kb6.cell (p := ⟨g8, 0, none⟩) (show g8 < _ by omega)).trans kc5
               obtain ⟨kx6, ky6⟩ := bcell1 kb6 kx5 ky5
               have ks6 := kb6.size)
            | (go_at_call 43
               with_reducible refine (capAddAny c0 kn5Y knum5Y ?h1 ?h2).mono ?_
               case h1 => omega
               case h2 => omega
               rintro e w6 ⟨A6, n6, c6, N6, ok2, rfl, knum6, kl6, kyes, kno, kb6⟩
               have kp6 := kp5Y.step kb6
               have kc6 := (kb6.cell (p := ⟨g8, 0, none⟩) (show g8 < _ by omega)).trans kc5
               obtain ⟨kx6, ky6⟩ := bcell1 kb6 kx5 ky5
               have ks6 := kb6.size)
            | (go_at_call 43
               with_reducible refine (capAddAny c0 (kn5.alloc _) (knum5.alloc _) ?h1 ?h2).mono ?_
               case h1 => omega
               case h2 => omega
               rintro e w6 ⟨A6, n6, c6, N6, ok2, rfl, knum6, kl6, kyes, kno, kb6⟩
               have kp6 := (kp5.alloc (.cells #[.slice none 0 0] 26)).step kb6
               have kc6 : w6.cell? ⟨g8, 0, none⟩ = some (.slice A3 n3 c3) := (kb6.cell (p := ⟨g8, 0, none⟩) (by simp; omega)).trans ((World.cell?_alloc_past _ _ _ (show g8 < _ by omega)).trans kc5)
               have ks6 : w5.heap.size + 1 ≤ w6.heap.size := by have := kb6.size; simpa using this
               obtain ⟨kx6, ky6⟩ := bcell1 kb6 (b := w5.heap.size) (o := 0) (v := .slice none 0 0) (World.cell?_alloc_at (w := w5) #[.slice none 0 0] 26 _ 0 rfl) (World.frozen?_alloc_at (w := w5) #[.slice none 0 0] 26 _ 0 rfl)))
        · exact key2 _ _ _ _ _ _ _ _ _ _ _ _ _ _ (Mid.behind kp6 knum6 (by omega) kyes kno (by omega))
        all_goals exact key2 _ _ _ _ _ _ _ _ _ _ _ _ _ _ (Mid.ahead kp6 knum6 (by first | omega | (simp; omega) | simp) kx6 (by first | omega | (simp; omega) | simp) (by omega) kyes kno (by omega))
      go_region_held3 (fun w' => w'.cell? ⟨wa.heap.size, 0, none⟩ = some (.slice A n c)) (first | exact hP3.var.1 | exact (hP3.alloc _).var.1 | exact hP2.var.1 | exact (hP2.alloc _).var.1 | exact hPX.var.1 | exact hc6d | exact (hPd.alloc _).var.1 | (rw [World.cell?_setCell_other _ _ _ _ (by intro e; injection e; omega)]; exact hP3.var.1))
        (first
          | (go_at_call 27
             with_reducible refine (ofTT wr.drew).mono ?_
             rintro e w2 ⟨A2, n2, c2, rfl, hnum2, hn2, hb2⟩
             have hP2 := hPd.step hb2
             have hl2 := hP2.lt6
             have hN2 := hNd.below hb2)
          | (go_at_call 27
             with_reducible refine (ofTT (wr.alloc _).drew).mono ?_
             rintro e w2 ⟨A2, n2, c2, rfl, hnumX, hn2, hb2⟩
             have hPX := (hPd.alloc (.cells #[.slice none 0 0] 26)).step hb2
             have hl2 := hPX.lt6
             have hNX := (hNd.alloc (.cells #[.slice none 0 0] 26)).below hb2
             obtain ⟨hcY, hfY⟩ := bcell1 hb2 (b := wr.heap.size) (o := 0) (v := .slice none 0 0) (World.cell?_alloc_at (w := wr) #[.slice none 0 0] 26 _ 0 rfl) (World.frozen?_alloc_at (w := wr) #[.slice none 0 0] 26 _ 0 rfl))
          | (go_at_call 42
             with_reducible refine (capMulAny c0 hN2 hnum2 ?h1 ?h2).mono ?_
             case h1 => omega
             case h2 => omega
             rintro e w3 ⟨A3, n3, c3, N3, ok, rfl, hnum3, hn3, hyes, hno, hb3⟩
             have hP3 := hP2.step hb3
             have hl3 := hP3.lt6)
          | (go_at_call 42
             with_reducible refine (capMulAny c0 hNX hnumX ?h1 ?h2).mono ?_
             case h1 => omega
             case h2 => omega
             rintro e w3 ⟨A3, n3, c3, N3, ok, rfl, hnum3, hn3, hyes, hno, hb3⟩
             have hP3 := hPX.step hb3
             have hl3 := hP3.lt6
             obtain ⟨hcZ, hfZ⟩ := bcell1 hb3 hcY hfY)
          | (go_at_call 42
             with_reducible refine (capMulAny c0 (hN2.alloc _) (hnum2.alloc _) ?h1 ?h2).mono ?_
             case h1 => omega
             case h2 => omega
             rintro e w3 ⟨A3, n3, c3, N3, ok, rfl, hnum3, hn3, hyes, hno, hb3⟩
             have hP3 := (hP2.alloc (.cells #[.slice none 0 0] 26)).step hb3
             have hl3 := hP3.lt6
             obtain ⟨hcW, hfW⟩ := bcell1 hb3 (b := w2.heap.size) (o := 0) (v := .slice none 0 0) (World.cell?_alloc_at (w := w2) #[.slice none 0 0] 26 _ 0 rfl) (World.frozen?_alloc_at (w := w2) #[.slice none 0 0] 26 _ 0 rfl)))
      · exact key _ _ _ _ _ _ _ _ _ _ _ _ _ (Mid.behind hP3 hnum3 (by omega) hyes hno (by omega)) (by omega)
      · exact key _ _ _ _ _ _ _ _ _ _ _ _ _ (Mid.ahead hP3 hnum3 (by simp; omega) hcW (by simp) (by omega) hyes hno (by omega)) (by omega)
      · exact key _ _ _ _ _ _ _ _ _ _ _ _ _ (Mid.ahead hP3 hnum3 (by omega) hcZ (by have := hb2.size; simp at this; omega) (by omega) hyes hno (by omega)) (by omega)
    · have hz : rem.size = 0 := by omega
      have hne : rem.toList.isEmpty = true := by
        rw [ByteArray.toList_eq]
        have hl : rem.data.toList.length = rem.size := Array.length_toList
        rw [hz] at hl
        rw [List.length_eq_zero_iff.1 hl]
        rfl
      have hVN : Hid (V = N) := by
        show _ = _
        have h1 := hst.val
        have hl : rem.data.toList = [] := List.length_eq_zero_iff.1 ((size_len rem).trans hz)
        rw [hz, hl] at h1
        simpa [dval] using h1
      have Hst := Lib.hid hst
      have hnle : Hid (n ≤ s.size) := num_len hst.num (by rw [← hVN.out]; exact hV.out)
      have hr1 := hst.res.1
      have hr2 := hst.res.2
      have hv1 := hst.var.1
      have hv2 := hst.var.2
      clear hst hst0
      go_wp2_with fail
      refine bodyPost_ret (v := .tuple #[.agg #[.slice A n c], .int .i64 0]) (by simp [results, Tryd.results20, go_sem, hr1]) rfl ?_
      refine ⟨.inl ⟨by rw [hVN.out]; exact Hst.out.fit, A, n, c, rfl, ?_, hnle.out⟩, Hst.out.below.setCell (p := ⟨w.heap.size, 0, none⟩) (Nat.le_refl _) _⟩
      rw [hVN.out]
      exact (Hst.out.num.setCell (p := ⟨w.heap.size, 0, none⟩) (by show w.heap.size < _; omega) _).mono (by omega)

set_option maxHeartbeats 400000 in
theorem parse_bad (s : ByteArray) (c0 : Int) (w : World) (hare : ∀ w, Calls Tryd.prog 41 #[.string s] w fun e w' => e = .returned (.bool false) ∧ Below w.heap.size w w') :
    Calls Tryd.prog 20 #[.string s, .int .i64 c0] w fun e w' => e = .returned (.tuple #[.agg #[.slice none 0 0], .int .i64 20]) ∧ Below w.heap.size w w' := by
  go_enter Tryd.func20, Tryd.ntmps20
  go_wp2_with fail
  refine (hare _).mono ?_
  rintro e wa ⟨rfl, hba⟩
  have hb1 : Below w.heap.size w wa := ((Below.refl _ _).alloc (Nat.le_refl _) _).trans (hba.mono (by simp))
  obtain ⟨hc4, hf4⟩ := bcell1 (b := w.heap.size) (o := 0) hba (v := .slice none 0 0) (by simp [go_sem]) (by simp [go_sem])
  clear hba hare
  go_wp2_with fail
  refine bodyPost_ret (v := .tuple #[.agg #[.slice none 0 0], .int .i64 20]) (by simp [results, Tryd.results20, go_sem, hc4]) rfl ?_
  exact ⟨rfl, hb1.setCell (p := ⟨w.heap.size, 0, none⟩) (Nat.le_refl _) _⟩
end Go.Proofs.YthcglobehoaocaaDoor
