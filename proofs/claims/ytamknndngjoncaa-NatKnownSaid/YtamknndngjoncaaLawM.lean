/- NatMakes: its walk. -/
import Derived.Test.YtamknndngjoncaaLawI
import Derived.Test.YtamknndngjoncaaRefE
import Derived.Test.YtamknndngjoncaaNatH
namespace Go.Proofs.Ytamknndngjoncaa
open Go.RowKit

/-- Facts behind writes to one row of the call's own. -/
theorem Row.only {w w' : World} {B n : Nat} {k : IntKind} {A : Option Addr} {l : List Nat} {row : Option Nat} (h : Row w B k A n l) (hg : w.grownBy w' row) (hB : B ≤ w.heap.size) (hA : ∀ ad, A = some ad → some ad.block ≠ row) : Row w' B k A n l := by
  refine ⟨h.1, fun hn => ?_⟩
  obtain ⟨ad, e, hb, hc⟩ := h.2 hn
  exact ⟨ad, e, hb, fun j u hu => (World.cell?_of_block (a := ad.add j) (hg.block _ (by rw [block_of_add]; omega) (by rw [block_of_add]; exact hA ad e))).trans (hc j u hu)⟩
theorem Num.only {w w' : World} {base n c N : Nat} {A : Option Addr} {row : Option Nat} (h : Num w base A n c N) (hg : w.grownBy w' row) (hr : ∀ g, row = some g → g < base) : Num w' base A n c N := by
  obtain ⟨l, h1, h2, h3, h4, h5, h6, h7, h8⟩ := h
  refine ⟨l, (h1.only hg (Nat.le_refl _) (fun ad ha e => ?_)).more hg.size, h2, h3, h4, h5, h6, h7, h8⟩
  have := hr ad.block e.symm
  have := h8 ad ha
  omega
theorem heap_set {w : World} {g e i : Nat} {cur : Array Value} {u : Value} (h : w.heap[g]? = some (.cells cur e (0, 0))) : (w.setCell ⟨g, i, none⟩ u).heap[g]? = some (.cells (cur.setIfInBounds i u) e (0, 0)) := by
  simp [World.setCell, Array.getElem?_modify, h]
/-- A number in a box, as the law keeps it. -/
structure Bx (w : World) (g : Nat) (A : Option Addr) (n c b N : Nat) : Prop where
  cell : w.cell? ⟨g, 0, none⟩ = some (.slice A n c)
  froz : w.frozen? ⟨g, 0, none⟩ = false
  num : Num w b A n c N
theorem Bx.below {w w' : World} {g n c b N : Nat} {A : Option Addr} (h : Bx w g A n c b N) (hb : Below w.heap.size w w') : Bx w' g A n c b N :=
  ⟨(bcell1 hb h.cell h.froz).1, (bcell1 hb h.cell h.froz).2, h.num.below hb⟩
theorem Bx.lt {w : World} {g n c b N : Nat} {A : Option Addr} (h : Bx w g A n c b N) : g < w.heap.size := World.block_lt_of_cell? w ⟨g, 0, none⟩ h.cell
theorem Bx.only {w w' : World} {g n c b N : Nat} {A : Option Addr} {row : Option Nat} (h : Bx w g A n c b N) (hg : w.grownBy w' row) (hr : ∀ x, row = some x → x < b) (hgb : ∀ x, row = some x → x < g) : Bx w' g A n c b N := by
  have e := hg.block g h.lt (fun e => by have := hgb g e.symm; omega)
  exact ⟨(World.cell?_of_block (a := ⟨g, 0, none⟩) e).trans h.cell, (World.frozen?_of_block (a := ⟨g, 0, none⟩) e).trans h.froz, h.num.only hg hr⟩

theorem Num.len_iff {w : World} {b n c N : Nat} {A : Option Addr} (h : Num w b A n c N) (j : Nat) : n ≤ j ↔ N < LB ^ j := by
  obtain ⟨l, h1, h2, h3, h4, _⟩ := h
  rw [h1.len, ← h4]
  exact Dig.len_le_iff (by unfold LB; omega) h2 h3 _
theorem one_limb {L : List Nat} {X : Nat} (h : L.length = 1) (hv : Dig.val LB L = X) : L = [X] := by
  match L, h with
  | [y], _ => simp [Dig.val] at hv; rw [hv]
theorem rowOne (w : World) (x : Nat) (hg : Nat) (he : hg = w.heap.size) : Row (w.alloc (.cells #[.int .u64 (x : Int)] 23)) (w.alloc (.cells #[.int .u64 (x : Int)] 23)).heap.size .u64 (some ⟨hg, 0, none⟩) 1 [x] := by
  subst he
  refine ⟨by simp [ints], fun _ => ⟨_, rfl, by simp, fun j u hu => ?_⟩⟩
  match j with
  | 0 => simp [ints] at hu; subst hu; simp [Addr.add]
  | j + 1 => simp [ints] at hu
theorem natCmpIs {A A' : Option Addr} {n c n' c' M N b b' : Nat} {w : World} {z : Int} (hM : Num w b A n c M) (hN : Num w b' A' n' c' N) (h : cmpI M N = z) :
    Calls Try.prog 15 #[.agg #[.slice A n c], .agg #[.slice A' n' c']] w fun e w' => e = .returned (.int .i64 z) ∧ Below w.heap.size w w' := by
  have := natCmp hM hN
  rw [h] at this
  exact this
def two (X Y : Nat) (i : Nat) : Nat := if i = 0 then X else Y
theorem max_two (X Y : Nat) : maxN (two X Y) 2 = if X < Y then Y else X := by
  have e : (if 0 < X then X else 0) = X := by split <;> omega
  show (if (if 0 < X then X else 0) < Y then Y else (if 0 < X then X else 0)) = _
  rw [e]
def three (Y : Nat) (i : Nat) : Nat := if i = 1 then Y else 0
theorem max_three (Y : Nat) : maxN (three Y) 3 = Y := by
  simp [maxN, three]
  omega
theorem nrow_two {w : World} {g1 g2 n1 c1 b1 X n2 c2 b2 Y h : Nat} {A1 A2 : Option Addr} (hp : Bx w g1 A1 n1 c1 b1 X) (hq : Bx w g2 A2 n2 c2 b2 Y) (h1 : n1 ≤ 1000) (h2 : n2 ≤ 1000) (hh : h = w.heap.size) :
    NRow (w.alloc (.cells #[.slice A1 n1 c1, .slice A2 n2 c2] 28)) (some ⟨h, 0, none⟩) 2 (two X Y) := by
  subst hh
  intro i hi
  match i, hi with
  | 0, _ => exact ⟨_, A1, n1, c1, rfl, by simp, by simp [Addr.add], (hp.num.alloc _).mono (Nat.zero_le _), by omega⟩
  | 1, _ => exact ⟨_, A2, n2, c2, rfl, by simp, by simp [Addr.add], (hq.num.alloc _).mono (Nat.zero_le _), by omega⟩
theorem nrow_three {w : World} {g2 n2 c2 b2 Y h : Nat} {A2 : Option Addr} (hq : Bx w g2 A2 n2 c2 b2 Y) (h2 : n2 ≤ 1000) (hh : h = w.heap.size) :
    NRow (w.alloc (.cells #[.slice none 0 0, .slice A2 n2 c2, .slice none 0 0] 28)) (some ⟨h, 0, none⟩) 3 (three Y) := by
  subst hh
  intro i hi
  match i, hi with
  | 0, _ => exact ⟨_, none, 0, 0, rfl, by simp, by simp [Addr.add], Num.zero _ _, by omega⟩
  | 1, _ => exact ⟨_, A2, n2, c2, rfl, by simp, by simp [Addr.add], (hq.num.alloc _).mono (Nat.zero_le _), by omega⟩
  | 2, _ => exact ⟨_, none, 0, 0, rfl, by simp, by simp [Addr.add], Num.zero _ _, by omega⟩
theorem nrow_none (w : World) (N : Nat → Nat) : NRow w none 0 N := fun i hi => absurd hi (by omega)

set_option maxRecDepth 100000 in
set_option maxHeartbeats 1000000 in
theorem natMakes_large (A B : Option Addr) (n m c c' : Nat) (x : Int) (w : World) (h : 40 < n ∨ 40 < m) :
    Calls Try.prog 3 #[.slice A n c, .slice B m c', .int .u64 x] w fun e w' => e = .returned (.bool true) ∧ Below w.heap.size w w' := by
  by_cases h1 : 40 < n
  · clear h
    go_enter Try.func3, Try.ntmps3
    go_wp2_with (first | (go_at_call 7; refine (works_any _).mono ?_; rintro e w1 ⟨rfl, hb1⟩))
    go_ret
    exact ⟨rfl, hb1⟩
  · have h2 : 40 < m := by omega
    clear h
    go_enter Try.func3, Try.ntmps3
    go_wp2_with (first | (go_at_call 7; refine (works_any _).mono ?_; rintro e w1 ⟨rfl, hb1⟩))
    go_ret
    exact ⟨rfl, hb1⟩

set_option maxRecDepth 100000 in
set_option maxHeartbeats 4000000 in
theorem natMakes_small (A B : Option Addr) (n m c c' x : Nat) (l1 l2 : List Nat) (w : World) (ha : Row w w.heap.size .u64 A n l1) (hb : Row w w.heap.size .u64 B m l2) (ba : Dig.Below LB l1) (bb : Dig.Below LB l2) (hx : x < LB)
    (hn : n ≤ 40) (hm : m ≤ 40) (hnc : n ≤ c) (hmc : m ≤ c') (hcm' : c' ≤ maxLen) :
    Calls Try.prog 3 #[.slice A n c, .slice B m c', .int .u64 x] w fun e w' => e = .returned (.bool true) ∧ Below w.heap.size w w' := by
  obtain ⟨i0, hi0, hz0, hz1, hz2⟩ := info_parts info_u64
  have hl := Lib.hid ha.len
  generalize hX : Dig.val LB l1 = X
  generalize hY : Dig.val LB l2 = Y
  have hX := Lib.hid hX
  have hY := Lib.hid hY
  go_enter Try.func3, Try.ntmps3
  go_wp2_with fail
  refine (refOf A n c l1 _ ha ba (by omega)).mono ?_
  rintro e w1 ⟨Ax, nx, cx, rfl, rx1, hnx, hb1⟩
  go_wp2_with fail
  refine (refOf B m c' l2 _ ((hb.below hb1).more hb1.size) bb (by omega)).mono ?_
  rintro e w2 ⟨Ay, ny, cy, rfl, ry2, hny, hb2⟩
  rw [hX.out] at rx1
  rw [hY.out] at ry2
  have rx2 := rx1.below hb2
  have hW2 := bstep0 hb1 hb2
  have ra2 := (ha.below hW2).more hW2.size
  have rb2 := (hb.below hW2).more hW2.size
  clear hb1 hb2 rx1
  go_wp2_with (first
    | (at_builtin
       refine wpList_append_any _ rfl (.tmp 33) (.tmp 34) _ rfl w2.heap.size 23 i0 _ 1 8 Try.underlying22 hi0 hz0 hz1 hz2 rfl (by omega) (.slice none 0 0) 0 [] rfl (World.ownsRow_nil _ _ _ _) w2.heap.size A n c (ints .u64 l1) rfl ra2 (ints_oneCell _ _) (by unfold maxLen; omega) (by omega) (Nat.le_refl _) ?_
       intro v3 w3 hown3 hg3 hat3
       obtain ⟨A3, c3, rfl, hown⟩ := Own.of (k := .u64) (l := l1) (by simpa using hown3)))
  have hb3 : Below w2.heap.size w2 w3 := (Below.refl _ _).grown hg3 (Nat.le_refl _) (by simp [Value.ownBlock])
  have hrow3 := hown.row
  have hcap3 := hown.cap
  refine (natLimbs A3 n c3 l1 _ hrow3 ba hcap3.1 hcap3.2 (by omega)).mono ?_
  rintro e w4 ⟨A1, n1, c1, rfl, hp4, hn1, hb4⟩
  go_wp2_with fail
  refine (natLimbs B m c' l2 _ (((rb2.below hb3).more hb3.size |>.below hb4).more hb4.size) bb hmc hcm' (by omega)).mono ?_
  rintro e w5 ⟨A2, n2, c2, rfl, hq5, hn2, hb5⟩
  rw [hX.out] at hp4
  rw [hY.out] at hq5
  go_wp2_with fail
  have hb6 : Below w5.heap.size w5 ((w5.alloc (.cells #[.slice A1 n1 c1] 28)).alloc (.cells #[.slice A2 n2 c2] 28)) := by go_grown
  have hpU : Bx ((w5.alloc (.cells #[.slice A1 n1 c1] 28)).alloc (.cells #[.slice A2 n2 c2] 28)) w5.heap.size A1 n1 c1 w3.heap.size X := ⟨by simp [go_sem], by simp [go_sem], (hp4.below hb5).below hb6⟩
  have hqU : Bx ((w5.alloc (.cells #[.slice A1 n1 c1] 28)).alloc (.cells #[.slice A2 n2 c2] 28)) (w5.heap.size + 1) A2 n2 c2 w4.heap.size Y := ⟨by simp [go_sem], by simp [go_sem], hq5.below hb6⟩
  have hs3 := hb3.size
  have hs4 := hb4.size
  have hs5 := hb5.size
  have hb36 : Below w3.heap.size w3 ((w5.alloc (.cells #[.slice A1 n1 c1] 28)).alloc (.cells #[.slice A2 n2 c2] 28)) := (hb4.trans (hb5.mono (by omega))).trans (hb6.mono (by omega))
  have hb26 := bstep0 hb3 hb36
  have hU : w5.heap.size + 2 ≤ ((w5.alloc (.cells #[.slice A1 n1 c1] 28)).alloc (.cells #[.slice A2 n2 c2] 28)).heap.size := by simp
  have hown6 := hown.below hb36 (Nat.le_refl _)
  have hgl := (hown.lt)
  generalize (w5.alloc (.cells #[.slice A1 n1 c1] 28)).alloc (.cells #[.slice A2 n2 c2] 28) = U at *
  have hex0 : Hid (∃ row : Option Nat, (∀ g, row = some g → w2.heap.size ≤ g ∧ g < w3.heap.size) ∧ (0 < n → ∃ g cur, row = some g ∧ A3 = some ⟨g, 0, none⟩ ∧ U.heap[g]? = some (.cells cur 23 (0, 0)) ∧ n ≤ cur.size ∧ ∀ j, j < n → cur[j]? = some (.int .u64 ((Dig.at_ l1 j : Nat) : Int)))) := by
    rcases Nat.eq_zero_or_pos n with h0 | h0
    · exact ⟨none, fun g h => (by cases h), fun h => (by omega)⟩
    · rcases hown6.2 with ⟨hv1, h01⟩ | ⟨g, cap, cur, hv1, hg, hh, hnc', hm', hcs, htake⟩
      · omega
      · injection hv1 with e1 e2 e3
        have hlt3 := hgl g (by rw [e1]; rfl)
        refine ⟨some g, fun g' h => (by injection h with h; subst h; exact hlt3), fun _ => ⟨g, cur, rfl, e1, hh, by omega, fun j hj => ?_⟩⟩
        have e4 : (cur.toList.take (n * 1))[j]? = some (.int .u64 ((Dig.at_ l1 j : Nat) : Int)) := by rw [htake]; exact ints_get _ _ _ (by have := hl.out; omega)
        rw [List.getElem?_take] at e4
        split at e4
        · simpa using e4
        · cases e4
  obtain ⟨row, hrow, hexn⟩ := hex0.out
  have hst0 : Hid (U.grownBy U row) := World.grownBy.refl U _
  have hexn := Lib.hid hexn
  have hrow := Lib.hid hrow
  clear hown6 hgl hex0 hown hown3 hg3 hat3 hrow3 hcap3 hp4 hq5 hb3 hb4 hb5 hb6 hb36
  go_loopw [12] (fun iv wr => ∃ i : Nat, i ≤ n ∧ iv = .int .i64 i ∧ U.grownBy wr row ∧ Below w2.heap.size w2 wr ∧ Hid (0 < n → ∃ g cur, row = some g ∧ A3 = some ⟨g, 0, none⟩ ∧ wr.heap[g]? = some (.cells cur 23 (0, 0)) ∧ n ≤ cur.size ∧ ∀ j, i ≤ j → j < n → cur[j]? = some (.int .u64 ((Dig.at_ l1 j : Nat) : Int)))) (fun iv _ => n - (intOf iv).toNat)
  case atStart => exact ⟨0, by omega, rfl, hst0.out, hb26, fun h => by
    obtain ⟨g, cur, h1, h2, h3, h4, h5⟩ := hexn.out h
    exact ⟨g, cur, h1, h2, h3, h4, fun j _ => h5 j⟩⟩
  case round =>
    obtain ⟨i, hi, rfl, hgr, hbw, hex⟩ := hrel
    by_cases hlt : i < n
    · obtain ⟨g, cur, hr1, rfl, hh, hcs, hcur⟩ := hex.out (by omega)
      obtain ⟨ad, rfl, hadb, hcella⟩ := (ra2.below hbw).at_ hlt
      have hg2 := (hrow.out g hr1).1
      have hcell : wr.cell? ⟨g, i, none⟩ = some (.int .u64 ((Dig.at_ l1 i : Nat) : Int)) := by
        rw [cell_of_row wr g i cur _ (0, 0) hh]; exact hcur i (Nat.le_refl _) hlt
      have hfro : wr.frozen? ⟨g, i, none⟩ = false := by simp [World.frozen?, hh]
      have hnew : Hid (∀ q, (0 < n → ∃ g' cur', row = some g' ∧ (some (⟨g, 0, none⟩ : Addr)) = some ⟨g', 0, none⟩ ∧ ((wr.drewN q).setCell ⟨g, i, none⟩ (.int .u64 99)).heap[g']? = some (.cells cur' 23 (0, 0)) ∧ n ≤ cur'.size ∧ ∀ j, i + 1 ≤ j → j < n → cur'[j]? = some (.int .u64 ((Dig.at_ l1 j : Nat) : Int)))) := by
        intro q _
        have hh2 : (wr.drewN q).heap[g]? = some (.cells cur 23 (0, 0)) := hh
        refine ⟨g, cur.setIfInBounds i (.int .u64 99), hr1, rfl, heap_set hh2, by simpa using hcs, fun j h1 h2 => ?_⟩
        rw [Array.getElem?_setIfInBounds_ne (by omega)]
        exact hcur j (by omega) h2
      have hgr2 : Hid (∀ q, U.grownBy ((wr.drewN q).setCell ⟨g, i, none⟩ (.int .u64 99)) row) := by
        intro q
        exact ⟨hgr.os, hgr.tape, hgr.output, by simpa [World.setCell] using hgr.size, fun j hj hne => (Below.heap_setCell _ _ _ j (fun e => hne (by rw [e, hr1]))).trans (hgr.block j hj hne)⟩
      have hbw2 : Hid (∀ q, Below w2.heap.size w2 ((wr.drewN q).setCell ⟨g, i, none⟩ (.int .u64 99))) := fun q => (below_drewN hbw q).setCell hg2 _
      have hi1 : (i : Int) < n := by omega
      clear hex hh hcur hcs hgr hbw hr1 hg2
      go_wp2_with fail
      go_quiet (fail)
      go_wp2_with fail
      refine ⟨⟨i + 1, by omega, by go_num, hgr2.out _, hbw2.out _, hnew.out _⟩, by simp [intOf]; omega⟩
    · obtain rfl : i = n := by omega
      have hp := hpU.only hgr (fun x h => (hrow.out x h).2) (fun x h => by have := (hrow.out x h).2; omega)
      have hq := hqU.only hgr (fun x h => by have := (hrow.out x h).2; omega) (fun x h => by have := (hrow.out x h).2; omega)
      have rx := rx2.below hbw
      have ry := ry2.below hbw
      have hW := bstep0 hW2 hbw
      have hsz : U.heap.size ≤ wr.heap.size := hgr.size
      clear hex hgr hbw hpU hqU rx2 ry2 hst0 hexn hrow ra2 rb2 hb26 hU hs3 hs4 hs5 ha hb
      have hn1' : n1 ≤ 1000 := by omega
      have hn2' : n2 ≤ 1000 := by omega
      have hnx' : nx ≤ 1000 := by omega
      have hny' : ny ≤ 1000 := by omega
      have hgp : w5.heap.size < wr.heap.size := hp.lt
      have hgq : w5.heap.size + 1 < wr.heap.size := hq.lt
      clear hn1 hn2 hnx hny hsz hl
      have kp := hp.cell
      have hlim := hp.num.len_iff
      rcases Nat.lt_or_ge 1 n1 with hs1 | hs1
      · have hXb := Lib.hid (fun h => Nat.not_lt.2 ((hlim 1).2 h) hs1)
        clear hlim
        have e2 := Lib.hid (cmpI_eq (show X = X from rfl))
        have e4 := Lib.hid (max_three Y)
        rcases Nat.lt_or_ge X Y with hm1 | hm1
        · have e1 := Lib.hid (cmpI_gt hm1)
          have e3 := Lib.hid (show maxN (two X Y) 2 = Y by rw [max_two, if_pos hm1])
          clear hm1
          go_wp2_with fail
          have hb10 : Below wr.heap.size wr (wr.alloc (.cells #[.slice none 0 0] 28)) := (Below.refl _ _).alloc (Nat.le_refl _) _
          have hz : Bx (wr.alloc (.cells #[.slice none 0 0] 28)) wr.heap.size none 0 0 0 0 := ⟨by simp [go_sem], by simp [go_sem], Num.zero _ _⟩
          replace hp := hp.below hb10
          replace hq := hq.below hb10
          replace rx := rx.below hb10
          replace ry := ry.below hb10
          replace hW := bstep0 hW hb10
          clear hb10 kp hgp hgq
          generalize wr.alloc (.cells #[.slice none 0 0] 28) = V at *
          generalize wr.heap.size = gz at *
          generalize w5.heap.size + 1 = gq at *
          generalize w5.heap.size = gp at *
          refine (natSmall_no A1 n1 c1 _ hs1).mono ?_
          rintro e v11 ⟨rfl, hb11⟩
          replace hp := hp.below hb11
          replace hq := hq.below hb11
          replace hz := hz.below hb11
          replace rx := rx.below hb11
          replace ry := ry.below hb11
          replace hW := bstep0 hW hb11
          clear hb11
          have kp := hp.cell
          have kq := hq.cell
          have kz := hz.cell
          go_wp2_with fail
          clear kp kq kz
          refine (refLimbs rx (by omega)).mono ?_
          rintro e v20 ⟨AL, kL, cL, L, rfl, hownL, hvL, hbL, hkL, hb20⟩
          replace hp := hp.below hb20
          replace hq := hq.below hb20
          replace hz := hz.below hb20
          replace rx := rx.below hb20
          replace ry := ry.below hb20
          replace hW := bstep0 hW hb20
          clear hb20
          have hk1 : 1 < kL := Nat.not_le.1 (fun h => hXb.out ((hkL 1).1 h))
          have hk2 : ((kL : Int) == 1) = false := by simp; omega
          clear hownL hvL hbL hkL
          have kp := hp.cell
          have kq := hq.cell
          have kz := hz.cell
          go_wp2_with fail
          clear kp kq kz
          refine (isYes hp.num rx (by omega)).mono ?_
          rintro e v21 ⟨rfl, hb21⟩
          replace hp := hp.below hb21
          replace hq := hq.below hb21
          replace hz := hz.below hb21
          replace rx := rx.below hb21
          replace ry := ry.below hb21
          replace hW := bstep0 hW hb21
          clear hb21
          have kp := hp.cell
          have kq := hq.cell
          have kz := hz.cell
          go_wp2_with fail
          clear kp kq kz
          refine (natOf x hx _).mono ?_
          rintro e v31 ⟨Ao, no, co, rfl, ho, hno, hb31⟩
          replace hp := hp.below hb31
          replace hq := hq.below hb31
          replace hz := hz.below hb31
          replace rx := rx.below hb31
          replace ry := ry.below hb31
          replace hW := bstep0 hW hb31
          clear hb31
          have kp := hp.cell
          have kq := hq.cell
          have kz := hz.cell
          go_wp2_with fail
          clear kp kq kz
          refine (refOf _ 1 1 [x] _ (rowOne _ x _ rfl) (Dig.Below.cons hx (Dig.Below.nil _)) (by omega)).mono ?_
          rintro e v32 ⟨Ar, nr, cr, rfl, hr, hnr, hb32⟩
          have hb32 := ((Below.refl _ _).alloc (Nat.le_refl _) _).trans (hb32.mono (Nat.le_of_lt (by simp)))
          replace hp := hp.below hb32
          replace hq := hq.below hb32
          replace hz := hz.below hb32
          replace rx := rx.below hb32
          replace ry := ry.below hb32
          replace ho := ho.below hb32
          replace hW := bstep0 hW hb32
          clear hb32
          have hvx : Dig.val LB [x] = x := by simp [Dig.val]
          rw [hvx] at hr
          clear hvx
          have kp := hp.cell
          have kq := hq.cell
          have kz := hz.cell
          go_wp2_with fail
          clear kp kq kz
          refine (isYes ho hr (by omega)).mono ?_
          rintro e v33 ⟨rfl, hb33⟩
          replace hp := hp.below hb33
          replace hq := hq.below hb33
          replace hz := hz.below hb33
          replace rx := rx.below hb33
          replace ry := ry.below hb33
          replace hW := bstep0 hW hb33
          clear hb33
          clear ho hr
          have kp := hp.cell
          have kq := hq.cell
          have kz := hz.cell
          go_wp2_with fail
          clear kp kq kz
          refine (isYes (Num.zero _ 0) (RNum.zero _ 0) (by omega)).mono ?_
          rintro e v34 ⟨rfl, hb34⟩
          replace hp := hp.below hb34
          replace hq := hq.below hb34
          replace hz := hz.below hb34
          replace rx := rx.below hb34
          replace ry := ry.below hb34
          replace hW := bstep0 hW hb34
          clear hb34
          have kp := hp.cell
          have kq := hq.cell
          have kz := hz.cell
          go_wp2_with fail
          clear kp kq kz
          refine (refCmp_is ry rx e1.out).mono ?_
          rintro e v35 ⟨rfl, hb35⟩
          replace hp := hp.below hb35
          replace hq := hq.below hb35
          replace hz := hz.below hb35
          replace rx := rx.below hb35
          replace ry := ry.below hb35
          replace hW := bstep0 hW hb35
          clear hb35
          have kp := hp.cell
          have kq := hq.cell
          have kz := hz.cell
          go_wp2_with fail
          clear kp kq kz
          refine (natCmp hp.num hq.num).mono ?_
          rintro e v36 ⟨rfl, hb36⟩
          replace hp := hp.below hb36
          replace hq := hq.below hb36
          replace hz := hz.below hb36
          replace rx := rx.below hb36
          replace ry := ry.below hb36
          replace hW := bstep0 hW hb36
          clear hb36
          have kp := hp.cell
          have kq := hq.cell
          have kz := hz.cell
          go_wp2_with fail
          clear kp kq kz
          refine (refCmp rx ry).mono ?_
          rintro e v37 ⟨rfl, hb37⟩
          replace hp := hp.below hb37
          replace hq := hq.below hb37
          replace hz := hz.below hb37
          replace rx := rx.below hb37
          replace ry := ry.below hb37
          replace hW := bstep0 hW hb37
          clear hb37
          have kp := hp.cell
          have kq := hq.cell
          have kz := hz.cell
          go_wp2_with fail
          clear kp kq kz
          refine (natCmp hq.num hp.num).mono ?_
          rintro e v38 ⟨rfl, hb38⟩
          replace hp := hp.below hb38
          replace hq := hq.below hb38
          replace hz := hz.below hb38
          replace rx := rx.below hb38
          replace ry := ry.below hb38
          replace hW := bstep0 hW hb38
          clear hb38
          have kp := hp.cell
          have kq := hq.cell
          have kz := hz.cell
          go_wp2_with fail
          clear kp kq kz
          refine (refCmp ry rx).mono ?_
          rintro e v39 ⟨rfl, hb39⟩
          replace hp := hp.below hb39
          replace hq := hq.below hb39
          replace hz := hz.below hb39
          replace rx := rx.below hb39
          replace ry := ry.below hb39
          replace hW := bstep0 hW hb39
          clear hb39
          have kp := hp.cell
          have kq := hq.cell
          have kz := hz.cell
          go_wp2_with fail
          clear kp kq kz
          refine (natCmpIs hp.num hp.num e2.out).mono ?_
          rintro e v40 ⟨rfl, hb40⟩
          replace hp := hp.below hb40
          replace hq := hq.below hb40
          replace hz := hz.below hb40
          replace rx := rx.below hb40
          replace ry := ry.below hb40
          replace hW := bstep0 hW hb40
          clear hb40
          have kp := hp.cell
          have kq := hq.cell
          have kz := hz.cell
          go_wp2_with fail
          clear kp kq kz
          refine (natMax _ 2 2 (two X Y) _ (nrow_two hp hq (by omega) (by omega) rfl) (by omega)).mono ?_
          rintro e v41 ⟨Am41, nm41, cm41, rfl, hm41, hnm41, hb41⟩
          have hb41 := ((Below.refl _ _).alloc (Nat.le_refl _) _).trans (hb41.mono (Nat.le_of_lt (by simp)))
          replace hp := hp.below hb41
          replace hq := hq.below hb41
          replace hz := hz.below hb41
          replace rx := rx.below hb41
          replace ry := ry.below hb41
          replace hW := bstep0 hW hb41
          clear hb41
          rw [e3.out] at hm41
          have kp := hp.cell
          have kq := hq.cell
          have kz := hz.cell
          go_wp2_with fail
          clear kp kq kz
          refine (isYes hm41 ry (by omega)).mono ?_
          rintro e v42 ⟨rfl, hb42⟩
          replace hp := hp.below hb42
          replace hq := hq.below hb42
          replace hz := hz.below hb42
          replace rx := rx.below hb42
          replace ry := ry.below hb42
          replace hW := bstep0 hW hb42
          clear hb42
          clear hm41
          have kp := hp.cell
          have kq := hq.cell
          have kz := hz.cell
          go_wp2_with fail
          clear kp kq kz
          refine (natMax none 0 0 (two 0 0) _ (nrow_none _ _) (by omega)).mono ?_
          rintro e v43 ⟨Am43, nm43, cm43, rfl, hm43, hnm43, hb43⟩
          replace hp := hp.below hb43
          replace hq := hq.below hb43
          replace hz := hz.below hb43
          replace rx := rx.below hb43
          replace ry := ry.below hb43
          replace hW := bstep0 hW hb43
          clear hb43
          have kp := hp.cell
          have kq := hq.cell
          have kz := hz.cell
          go_wp2_with fail
          clear kp kq kz
          refine (isYes hm43 (RNum.zero _ 0) (by omega)).mono ?_
          rintro e v44 ⟨rfl, hb44⟩
          replace hp := hp.below hb44
          replace hq := hq.below hb44
          replace hz := hz.below hb44
          replace rx := rx.below hb44
          replace ry := ry.below hb44
          replace hW := bstep0 hW hb44
          clear hb44
          clear hm43
          have kp := hp.cell
          have kq := hq.cell
          have kz := hz.cell
          go_wp2_with fail
          clear kp kq kz
          refine (natMax _ 3 3 (three Y) _ (nrow_three hq (by omega) rfl) (by omega)).mono ?_
          rintro e v45 ⟨Am45, nm45, cm45, rfl, hm45, hnm45, hb45⟩
          have hb45 := ((Below.refl _ _).alloc (Nat.le_refl _) _).trans (hb45.mono (Nat.le_of_lt (by simp)))
          replace hp := hp.below hb45
          replace hq := hq.below hb45
          replace hz := hz.below hb45
          replace rx := rx.below hb45
          replace ry := ry.below hb45
          replace hW := bstep0 hW hb45
          clear hb45
          rw [e4.out] at hm45
          have kp := hp.cell
          have kq := hq.cell
          have kz := hz.cell
          go_wp2_with fail
          clear kp kq kz
          refine (isYes hm45 ry (by omega)).mono ?_
          rintro e v46 ⟨rfl, hb46⟩
          replace hp := hp.below hb46
          replace hq := hq.below hb46
          replace hz := hz.below hb46
          replace rx := rx.below hb46
          replace ry := ry.below hb46
          replace hW := bstep0 hW hb46
          clear hb46
          clear hm45
          have kp := hp.cell
          have kq := hq.cell
          have kz := hz.cell
          go_wp2_with fail
          clear kp kq kz
          refine (works_any _).mono ?_
          rintro e v47 ⟨rfl, hb47⟩
          replace hp := hp.below hb47
          replace hq := hq.below hb47
          replace hz := hz.below hb47
          replace rx := rx.below hb47
          replace ry := ry.below hb47
          replace hW := bstep0 hW hb47
          clear hb47
          have kp := hp.cell
          have kq := hq.cell
          have kz := hz.cell
          go_wp2_with fail
          clear kp kq kz
          go_ret
          exact ⟨rfl, hW⟩
        · obtain ⟨z, hz1, hz2⟩ : ∃ z : Int, cmpI Y X = z ∧ z ≤ 0 := ⟨_, rfl, by unfold cmpI; split <;> (try split) <;> omega⟩
          have hz3 : decide (0 < z) = false := by simp; omega
          have e1 := Lib.hid hz1
          have e3 := Lib.hid (show maxN (two X Y) 2 = X by rw [max_two, if_neg (by omega)])
          clear hm1 hz1 hz2
          go_wp2_with fail
          have hb10 : Below wr.heap.size wr (wr.alloc (.cells #[.slice none 0 0] 28)) := (Below.refl _ _).alloc (Nat.le_refl _) _
          have hz : Bx (wr.alloc (.cells #[.slice none 0 0] 28)) wr.heap.size none 0 0 0 0 := ⟨by simp [go_sem], by simp [go_sem], Num.zero _ _⟩
          replace hp := hp.below hb10
          replace hq := hq.below hb10
          replace rx := rx.below hb10
          replace ry := ry.below hb10
          replace hW := bstep0 hW hb10
          clear hb10 kp hgp hgq
          generalize wr.alloc (.cells #[.slice none 0 0] 28) = V at *
          generalize wr.heap.size = gz at *
          generalize w5.heap.size + 1 = gq at *
          generalize w5.heap.size = gp at *
          refine (natSmall_no A1 n1 c1 _ hs1).mono ?_
          rintro e v11 ⟨rfl, hb11⟩
          replace hp := hp.below hb11
          replace hq := hq.below hb11
          replace hz := hz.below hb11
          replace rx := rx.below hb11
          replace ry := ry.below hb11
          replace hW := bstep0 hW hb11
          clear hb11
          have kp := hp.cell
          have kq := hq.cell
          have kz := hz.cell
          go_wp2_with fail
          clear kp kq kz
          refine (refLimbs rx (by omega)).mono ?_
          rintro e v20 ⟨AL, kL, cL, L, rfl, hownL, hvL, hbL, hkL, hb20⟩
          replace hp := hp.below hb20
          replace hq := hq.below hb20
          replace hz := hz.below hb20
          replace rx := rx.below hb20
          replace ry := ry.below hb20
          replace hW := bstep0 hW hb20
          clear hb20
          have hk1 : 1 < kL := Nat.not_le.1 (fun h => hXb.out ((hkL 1).1 h))
          have hk2 : ((kL : Int) == 1) = false := by simp; omega
          clear hownL hvL hbL hkL
          have kp := hp.cell
          have kq := hq.cell
          have kz := hz.cell
          go_wp2_with fail
          clear kp kq kz
          refine (isYes hp.num rx (by omega)).mono ?_
          rintro e v21 ⟨rfl, hb21⟩
          replace hp := hp.below hb21
          replace hq := hq.below hb21
          replace hz := hz.below hb21
          replace rx := rx.below hb21
          replace ry := ry.below hb21
          replace hW := bstep0 hW hb21
          clear hb21
          have kp := hp.cell
          have kq := hq.cell
          have kz := hz.cell
          go_wp2_with fail
          clear kp kq kz
          refine (natOf x hx _).mono ?_
          rintro e v31 ⟨Ao, no, co, rfl, ho, hno, hb31⟩
          replace hp := hp.below hb31
          replace hq := hq.below hb31
          replace hz := hz.below hb31
          replace rx := rx.below hb31
          replace ry := ry.below hb31
          replace hW := bstep0 hW hb31
          clear hb31
          have kp := hp.cell
          have kq := hq.cell
          have kz := hz.cell
          go_wp2_with fail
          clear kp kq kz
          refine (refOf _ 1 1 [x] _ (rowOne _ x _ rfl) (Dig.Below.cons hx (Dig.Below.nil _)) (by omega)).mono ?_
          rintro e v32 ⟨Ar, nr, cr, rfl, hr, hnr, hb32⟩
          have hb32 := ((Below.refl _ _).alloc (Nat.le_refl _) _).trans (hb32.mono (Nat.le_of_lt (by simp)))
          replace hp := hp.below hb32
          replace hq := hq.below hb32
          replace hz := hz.below hb32
          replace rx := rx.below hb32
          replace ry := ry.below hb32
          replace ho := ho.below hb32
          replace hW := bstep0 hW hb32
          clear hb32
          have hvx : Dig.val LB [x] = x := by simp [Dig.val]
          rw [hvx] at hr
          clear hvx
          have kp := hp.cell
          have kq := hq.cell
          have kz := hz.cell
          go_wp2_with fail
          clear kp kq kz
          refine (isYes ho hr (by omega)).mono ?_
          rintro e v33 ⟨rfl, hb33⟩
          replace hp := hp.below hb33
          replace hq := hq.below hb33
          replace hz := hz.below hb33
          replace rx := rx.below hb33
          replace ry := ry.below hb33
          replace hW := bstep0 hW hb33
          clear hb33
          clear ho hr
          have kp := hp.cell
          have kq := hq.cell
          have kz := hz.cell
          go_wp2_with fail
          clear kp kq kz
          refine (isYes (Num.zero _ 0) (RNum.zero _ 0) (by omega)).mono ?_
          rintro e v34 ⟨rfl, hb34⟩
          replace hp := hp.below hb34
          replace hq := hq.below hb34
          replace hz := hz.below hb34
          replace rx := rx.below hb34
          replace ry := ry.below hb34
          replace hW := bstep0 hW hb34
          clear hb34
          have kp := hp.cell
          have kq := hq.cell
          have kz := hz.cell
          go_wp2_with fail
          clear kp kq kz
          refine (refCmp_is ry rx e1.out).mono ?_
          rintro e v35 ⟨rfl, hb35⟩
          replace hp := hp.below hb35
          replace hq := hq.below hb35
          replace hz := hz.below hb35
          replace rx := rx.below hb35
          replace ry := ry.below hb35
          replace hW := bstep0 hW hb35
          clear hb35
          have kp := hp.cell
          have kq := hq.cell
          have kz := hz.cell
          go_wp2_with fail
          clear kp kq kz
          refine (natCmp hp.num hq.num).mono ?_
          rintro e v36 ⟨rfl, hb36⟩
          replace hp := hp.below hb36
          replace hq := hq.below hb36
          replace hz := hz.below hb36
          replace rx := rx.below hb36
          replace ry := ry.below hb36
          replace hW := bstep0 hW hb36
          clear hb36
          have kp := hp.cell
          have kq := hq.cell
          have kz := hz.cell
          go_wp2_with fail
          clear kp kq kz
          refine (refCmp rx ry).mono ?_
          rintro e v37 ⟨rfl, hb37⟩
          replace hp := hp.below hb37
          replace hq := hq.below hb37
          replace hz := hz.below hb37
          replace rx := rx.below hb37
          replace ry := ry.below hb37
          replace hW := bstep0 hW hb37
          clear hb37
          have kp := hp.cell
          have kq := hq.cell
          have kz := hz.cell
          go_wp2_with fail
          clear kp kq kz
          refine (natCmp hq.num hp.num).mono ?_
          rintro e v38 ⟨rfl, hb38⟩
          replace hp := hp.below hb38
          replace hq := hq.below hb38
          replace hz := hz.below hb38
          replace rx := rx.below hb38
          replace ry := ry.below hb38
          replace hW := bstep0 hW hb38
          clear hb38
          have kp := hp.cell
          have kq := hq.cell
          have kz := hz.cell
          go_wp2_with fail
          clear kp kq kz
          refine (refCmp ry rx).mono ?_
          rintro e v39 ⟨rfl, hb39⟩
          replace hp := hp.below hb39
          replace hq := hq.below hb39
          replace hz := hz.below hb39
          replace rx := rx.below hb39
          replace ry := ry.below hb39
          replace hW := bstep0 hW hb39
          clear hb39
          have kp := hp.cell
          have kq := hq.cell
          have kz := hz.cell
          go_wp2_with fail
          clear kp kq kz
          refine (natCmpIs hp.num hp.num e2.out).mono ?_
          rintro e v40 ⟨rfl, hb40⟩
          replace hp := hp.below hb40
          replace hq := hq.below hb40
          replace hz := hz.below hb40
          replace rx := rx.below hb40
          replace ry := ry.below hb40
          replace hW := bstep0 hW hb40
          clear hb40
          have kp := hp.cell
          have kq := hq.cell
          have kz := hz.cell
          go_wp2_with fail
          clear kp kq kz
          refine (natMax _ 2 2 (two X Y) _ (nrow_two hp hq (by omega) (by omega) rfl) (by omega)).mono ?_
          rintro e v41 ⟨Am41, nm41, cm41, rfl, hm41, hnm41, hb41⟩
          have hb41 := ((Below.refl _ _).alloc (Nat.le_refl _) _).trans (hb41.mono (Nat.le_of_lt (by simp)))
          replace hp := hp.below hb41
          replace hq := hq.below hb41
          replace hz := hz.below hb41
          replace rx := rx.below hb41
          replace ry := ry.below hb41
          replace hW := bstep0 hW hb41
          clear hb41
          rw [e3.out] at hm41
          have kp := hp.cell
          have kq := hq.cell
          have kz := hz.cell
          go_wp2_with fail
          clear kp kq kz
          refine (isYes hm41 rx (by omega)).mono ?_
          rintro e v42 ⟨rfl, hb42⟩
          replace hp := hp.below hb42
          replace hq := hq.below hb42
          replace hz := hz.below hb42
          replace rx := rx.below hb42
          replace ry := ry.below hb42
          replace hW := bstep0 hW hb42
          clear hb42
          clear hm41
          have kp := hp.cell
          have kq := hq.cell
          have kz := hz.cell
          go_wp2_with fail
          clear kp kq kz
          refine (natMax none 0 0 (two 0 0) _ (nrow_none _ _) (by omega)).mono ?_
          rintro e v43 ⟨Am43, nm43, cm43, rfl, hm43, hnm43, hb43⟩
          replace hp := hp.below hb43
          replace hq := hq.below hb43
          replace hz := hz.below hb43
          replace rx := rx.below hb43
          replace ry := ry.below hb43
          replace hW := bstep0 hW hb43
          clear hb43
          have kp := hp.cell
          have kq := hq.cell
          have kz := hz.cell
          go_wp2_with fail
          clear kp kq kz
          refine (isYes hm43 (RNum.zero _ 0) (by omega)).mono ?_
          rintro e v44 ⟨rfl, hb44⟩
          replace hp := hp.below hb44
          replace hq := hq.below hb44
          replace hz := hz.below hb44
          replace rx := rx.below hb44
          replace ry := ry.below hb44
          replace hW := bstep0 hW hb44
          clear hb44
          clear hm43
          have kp := hp.cell
          have kq := hq.cell
          have kz := hz.cell
          go_wp2_with fail
          clear kp kq kz
          refine (natMax _ 3 3 (three Y) _ (nrow_three hq (by omega) rfl) (by omega)).mono ?_
          rintro e v45 ⟨Am45, nm45, cm45, rfl, hm45, hnm45, hb45⟩
          have hb45 := ((Below.refl _ _).alloc (Nat.le_refl _) _).trans (hb45.mono (Nat.le_of_lt (by simp)))
          replace hp := hp.below hb45
          replace hq := hq.below hb45
          replace hz := hz.below hb45
          replace rx := rx.below hb45
          replace ry := ry.below hb45
          replace hW := bstep0 hW hb45
          clear hb45
          rw [e4.out] at hm45
          have kp := hp.cell
          have kq := hq.cell
          have kz := hz.cell
          go_wp2_with fail
          clear kp kq kz
          refine (isYes hm45 ry (by omega)).mono ?_
          rintro e v46 ⟨rfl, hb46⟩
          replace hp := hp.below hb46
          replace hq := hq.below hb46
          replace hz := hz.below hb46
          replace rx := rx.below hb46
          replace ry := ry.below hb46
          replace hW := bstep0 hW hb46
          clear hb46
          clear hm45
          have kp := hp.cell
          have kq := hq.cell
          have kz := hz.cell
          go_wp2_with fail
          clear kp kq kz
          refine (works_any _).mono ?_
          rintro e v47 ⟨rfl, hb47⟩
          replace hp := hp.below hb47
          replace hq := hq.below hb47
          replace hz := hz.below hb47
          replace rx := rx.below hb47
          replace ry := ry.below hb47
          replace hW := bstep0 hW hb47
          clear hb47
          have kp := hp.cell
          have kq := hq.cell
          have kz := hz.cell
          go_wp2_with fail
          clear kp kq kz
          go_ret
          exact ⟨rfl, hW⟩
      · rcases Nat.eq_zero_or_pos X with h0 | h0
        · subst h0
          have hXb := Lib.hid ((hlim 1).1 hs1)
          clear hlim
          have e2 := Lib.hid (cmpI_eq (show 0 = 0 from rfl))
          have e4 := Lib.hid (max_three Y)
          rcases Nat.lt_or_ge 0 Y with hm1 | hm1
          · have e1 := Lib.hid (cmpI_gt hm1)
            have e3 := Lib.hid (show maxN (two 0 Y) 2 = Y by rw [max_two, if_pos hm1])
            clear hm1
            go_wp2_with fail
            have hb10 : Below wr.heap.size wr (wr.alloc (.cells #[.slice none 0 0] 28)) := (Below.refl _ _).alloc (Nat.le_refl _) _
            have hz : Bx (wr.alloc (.cells #[.slice none 0 0] 28)) wr.heap.size none 0 0 0 0 := ⟨by simp [go_sem], by simp [go_sem], Num.zero _ _⟩
            replace hp := hp.below hb10
            replace hq := hq.below hb10
            replace rx := rx.below hb10
            replace ry := ry.below hb10
            replace hW := bstep0 hW hb10
            clear hb10 kp hgp hgq
            generalize wr.alloc (.cells #[.slice none 0 0] 28) = V at *
            generalize wr.heap.size = gz at *
            generalize w5.heap.size + 1 = gq at *
            generalize w5.heap.size = gp at *
            refine (natSmall_yes A1 n1 c1 _ _ _ hp.num hs1).mono ?_
            rintro e v11 ⟨rfl, hb11⟩
            replace hp := hp.below hb11
            replace hq := hq.below hb11
            replace hz := hz.below hb11
            replace rx := rx.below hb11
            replace ry := ry.below hb11
            replace hW := bstep0 hW hb11
            clear hb11
            have kp := hp.cell
            have kq := hq.cell
            have kz := hz.cell
            go_wp2_with fail
            clear kp kq kz
            refine (refLimbs rx (by omega)).mono ?_
            rintro e v20 ⟨AL, kL, cL, L, rfl, hownL, hvL, hbL, hkL, hb20⟩
            replace hp := hp.below hb20
            replace hq := hq.below hb20
            replace hz := hz.below hb20
            replace rx := rx.below hb20
            replace ry := ry.below hb20
            replace hW := bstep0 hW hb20
            clear hb20
            have hk1 : kL = 0 := Nat.le_zero.1 ((hkL 0).2 (by simp))
            subst hk1
            clear hownL hvL hbL hkL
            have kp := hp.cell
            have kq := hq.cell
            have kz := hz.cell
            go_wp2_with fail
            clear kp kq kz
            refine (isYes hp.num rx (by omega)).mono ?_
            rintro e v21 ⟨rfl, hb21⟩
            replace hp := hp.below hb21
            replace hq := hq.below hb21
            replace hz := hz.below hb21
            replace rx := rx.below hb21
            replace ry := ry.below hb21
            replace hW := bstep0 hW hb21
            clear hb21
            have kp := hp.cell
            have kq := hq.cell
            have kz := hz.cell
            go_wp2_with fail
            clear kp kq kz
            refine (natOf x hx _).mono ?_
            rintro e v31 ⟨Ao, no, co, rfl, ho, hno, hb31⟩
            replace hp := hp.below hb31
            replace hq := hq.below hb31
            replace hz := hz.below hb31
            replace rx := rx.below hb31
            replace ry := ry.below hb31
            replace hW := bstep0 hW hb31
            clear hb31
            have kp := hp.cell
            have kq := hq.cell
            have kz := hz.cell
            go_wp2_with fail
            clear kp kq kz
            refine (refOf _ 1 1 [x] _ (rowOne _ x _ rfl) (Dig.Below.cons hx (Dig.Below.nil _)) (by omega)).mono ?_
            rintro e v32 ⟨Ar, nr, cr, rfl, hr, hnr, hb32⟩
            have hb32 := ((Below.refl _ _).alloc (Nat.le_refl _) _).trans (hb32.mono (Nat.le_of_lt (by simp)))
            replace hp := hp.below hb32
            replace hq := hq.below hb32
            replace hz := hz.below hb32
            replace rx := rx.below hb32
            replace ry := ry.below hb32
            replace ho := ho.below hb32
            replace hW := bstep0 hW hb32
            clear hb32
            have hvx : Dig.val LB [x] = x := by simp [Dig.val]
            rw [hvx] at hr
            clear hvx
            have kp := hp.cell
            have kq := hq.cell
            have kz := hz.cell
            go_wp2_with fail
            clear kp kq kz
            refine (isYes ho hr (by omega)).mono ?_
            rintro e v33 ⟨rfl, hb33⟩
            replace hp := hp.below hb33
            replace hq := hq.below hb33
            replace hz := hz.below hb33
            replace rx := rx.below hb33
            replace ry := ry.below hb33
            replace hW := bstep0 hW hb33
            clear hb33
            clear ho hr
            have kp := hp.cell
            have kq := hq.cell
            have kz := hz.cell
            go_wp2_with fail
            clear kp kq kz
            refine (isYes (Num.zero _ 0) (RNum.zero _ 0) (by omega)).mono ?_
            rintro e v34 ⟨rfl, hb34⟩
            replace hp := hp.below hb34
            replace hq := hq.below hb34
            replace hz := hz.below hb34
            replace rx := rx.below hb34
            replace ry := ry.below hb34
            replace hW := bstep0 hW hb34
            clear hb34
            have kp := hp.cell
            have kq := hq.cell
            have kz := hz.cell
            go_wp2_with fail
            clear kp kq kz
            refine (refCmp_is ry rx e1.out).mono ?_
            rintro e v35 ⟨rfl, hb35⟩
            replace hp := hp.below hb35
            replace hq := hq.below hb35
            replace hz := hz.below hb35
            replace rx := rx.below hb35
            replace ry := ry.below hb35
            replace hW := bstep0 hW hb35
            clear hb35
            have kp := hp.cell
            have kq := hq.cell
            have kz := hz.cell
            go_wp2_with fail
            clear kp kq kz
            refine (natCmp hp.num hq.num).mono ?_
            rintro e v36 ⟨rfl, hb36⟩
            replace hp := hp.below hb36
            replace hq := hq.below hb36
            replace hz := hz.below hb36
            replace rx := rx.below hb36
            replace ry := ry.below hb36
            replace hW := bstep0 hW hb36
            clear hb36
            have kp := hp.cell
            have kq := hq.cell
            have kz := hz.cell
            go_wp2_with fail
            clear kp kq kz
            refine (refCmp rx ry).mono ?_
            rintro e v37 ⟨rfl, hb37⟩
            replace hp := hp.below hb37
            replace hq := hq.below hb37
            replace hz := hz.below hb37
            replace rx := rx.below hb37
            replace ry := ry.below hb37
            replace hW := bstep0 hW hb37
            clear hb37
            have kp := hp.cell
            have kq := hq.cell
            have kz := hz.cell
            go_wp2_with fail
            clear kp kq kz
            refine (natCmp hq.num hp.num).mono ?_
            rintro e v38 ⟨rfl, hb38⟩
            replace hp := hp.below hb38
            replace hq := hq.below hb38
            replace hz := hz.below hb38
            replace rx := rx.below hb38
            replace ry := ry.below hb38
            replace hW := bstep0 hW hb38
            clear hb38
            have kp := hp.cell
            have kq := hq.cell
            have kz := hz.cell
            go_wp2_with fail
            clear kp kq kz
            refine (refCmp ry rx).mono ?_
            rintro e v39 ⟨rfl, hb39⟩
            replace hp := hp.below hb39
            replace hq := hq.below hb39
            replace hz := hz.below hb39
            replace rx := rx.below hb39
            replace ry := ry.below hb39
            replace hW := bstep0 hW hb39
            clear hb39
            have kp := hp.cell
            have kq := hq.cell
            have kz := hz.cell
            go_wp2_with fail
            clear kp kq kz
            refine (natCmpIs hp.num hp.num e2.out).mono ?_
            rintro e v40 ⟨rfl, hb40⟩
            replace hp := hp.below hb40
            replace hq := hq.below hb40
            replace hz := hz.below hb40
            replace rx := rx.below hb40
            replace ry := ry.below hb40
            replace hW := bstep0 hW hb40
            clear hb40
            have kp := hp.cell
            have kq := hq.cell
            have kz := hz.cell
            go_wp2_with fail
            clear kp kq kz
            refine (natMax _ 2 2 (two 0 Y) _ (nrow_two hp hq (by omega) (by omega) rfl) (by omega)).mono ?_
            rintro e v41 ⟨Am41, nm41, cm41, rfl, hm41, hnm41, hb41⟩
            have hb41 := ((Below.refl _ _).alloc (Nat.le_refl _) _).trans (hb41.mono (Nat.le_of_lt (by simp)))
            replace hp := hp.below hb41
            replace hq := hq.below hb41
            replace hz := hz.below hb41
            replace rx := rx.below hb41
            replace ry := ry.below hb41
            replace hW := bstep0 hW hb41
            clear hb41
            rw [e3.out] at hm41
            have kp := hp.cell
            have kq := hq.cell
            have kz := hz.cell
            go_wp2_with fail
            clear kp kq kz
            refine (isYes hm41 ry (by omega)).mono ?_
            rintro e v42 ⟨rfl, hb42⟩
            replace hp := hp.below hb42
            replace hq := hq.below hb42
            replace hz := hz.below hb42
            replace rx := rx.below hb42
            replace ry := ry.below hb42
            replace hW := bstep0 hW hb42
            clear hb42
            clear hm41
            have kp := hp.cell
            have kq := hq.cell
            have kz := hz.cell
            go_wp2_with fail
            clear kp kq kz
            refine (natMax none 0 0 (two 0 0) _ (nrow_none _ _) (by omega)).mono ?_
            rintro e v43 ⟨Am43, nm43, cm43, rfl, hm43, hnm43, hb43⟩
            replace hp := hp.below hb43
            replace hq := hq.below hb43
            replace hz := hz.below hb43
            replace rx := rx.below hb43
            replace ry := ry.below hb43
            replace hW := bstep0 hW hb43
            clear hb43
            have kp := hp.cell
            have kq := hq.cell
            have kz := hz.cell
            go_wp2_with fail
            clear kp kq kz
            refine (isYes hm43 (RNum.zero _ 0) (by omega)).mono ?_
            rintro e v44 ⟨rfl, hb44⟩
            replace hp := hp.below hb44
            replace hq := hq.below hb44
            replace hz := hz.below hb44
            replace rx := rx.below hb44
            replace ry := ry.below hb44
            replace hW := bstep0 hW hb44
            clear hb44
            clear hm43
            have kp := hp.cell
            have kq := hq.cell
            have kz := hz.cell
            go_wp2_with fail
            clear kp kq kz
            refine (natMax _ 3 3 (three Y) _ (nrow_three hq (by omega) rfl) (by omega)).mono ?_
            rintro e v45 ⟨Am45, nm45, cm45, rfl, hm45, hnm45, hb45⟩
            have hb45 := ((Below.refl _ _).alloc (Nat.le_refl _) _).trans (hb45.mono (Nat.le_of_lt (by simp)))
            replace hp := hp.below hb45
            replace hq := hq.below hb45
            replace hz := hz.below hb45
            replace rx := rx.below hb45
            replace ry := ry.below hb45
            replace hW := bstep0 hW hb45
            clear hb45
            rw [e4.out] at hm45
            have kp := hp.cell
            have kq := hq.cell
            have kz := hz.cell
            go_wp2_with fail
            clear kp kq kz
            refine (isYes hm45 ry (by omega)).mono ?_
            rintro e v46 ⟨rfl, hb46⟩
            replace hp := hp.below hb46
            replace hq := hq.below hb46
            replace hz := hz.below hb46
            replace rx := rx.below hb46
            replace ry := ry.below hb46
            replace hW := bstep0 hW hb46
            clear hb46
            clear hm45
            have kp := hp.cell
            have kq := hq.cell
            have kz := hz.cell
            go_wp2_with fail
            clear kp kq kz
            refine (works_any _).mono ?_
            rintro e v47 ⟨rfl, hb47⟩
            replace hp := hp.below hb47
            replace hq := hq.below hb47
            replace hz := hz.below hb47
            replace rx := rx.below hb47
            replace ry := ry.below hb47
            replace hW := bstep0 hW hb47
            clear hb47
            have kp := hp.cell
            have kq := hq.cell
            have kz := hz.cell
            go_wp2_with fail
            clear kp kq kz
            go_ret
            exact ⟨rfl, hW⟩
          · obtain ⟨z, hz1, hz2⟩ : ∃ z : Int, cmpI Y 0 = z ∧ z ≤ 0 := ⟨_, rfl, by unfold cmpI; split <;> (try split) <;> omega⟩
            have hz3 : decide (0 < z) = false := by simp; omega
            have e1 := Lib.hid hz1
            have e3 := Lib.hid (show maxN (two 0 Y) 2 = 0 by rw [max_two, if_neg (by omega)])
            clear hm1 hz1 hz2
            go_wp2_with fail
            have hb10 : Below wr.heap.size wr (wr.alloc (.cells #[.slice none 0 0] 28)) := (Below.refl _ _).alloc (Nat.le_refl _) _
            have hz : Bx (wr.alloc (.cells #[.slice none 0 0] 28)) wr.heap.size none 0 0 0 0 := ⟨by simp [go_sem], by simp [go_sem], Num.zero _ _⟩
            replace hp := hp.below hb10
            replace hq := hq.below hb10
            replace rx := rx.below hb10
            replace ry := ry.below hb10
            replace hW := bstep0 hW hb10
            clear hb10 kp hgp hgq
            generalize wr.alloc (.cells #[.slice none 0 0] 28) = V at *
            generalize wr.heap.size = gz at *
            generalize w5.heap.size + 1 = gq at *
            generalize w5.heap.size = gp at *
            refine (natSmall_yes A1 n1 c1 _ _ _ hp.num hs1).mono ?_
            rintro e v11 ⟨rfl, hb11⟩
            replace hp := hp.below hb11
            replace hq := hq.below hb11
            replace hz := hz.below hb11
            replace rx := rx.below hb11
            replace ry := ry.below hb11
            replace hW := bstep0 hW hb11
            clear hb11
            have kp := hp.cell
            have kq := hq.cell
            have kz := hz.cell
            go_wp2_with fail
            clear kp kq kz
            refine (refLimbs rx (by omega)).mono ?_
            rintro e v20 ⟨AL, kL, cL, L, rfl, hownL, hvL, hbL, hkL, hb20⟩
            replace hp := hp.below hb20
            replace hq := hq.below hb20
            replace hz := hz.below hb20
            replace rx := rx.below hb20
            replace ry := ry.below hb20
            replace hW := bstep0 hW hb20
            clear hb20
            have hk1 : kL = 0 := Nat.le_zero.1 ((hkL 0).2 (by simp))
            subst hk1
            clear hownL hvL hbL hkL
            have kp := hp.cell
            have kq := hq.cell
            have kz := hz.cell
            go_wp2_with fail
            clear kp kq kz
            refine (isYes hp.num rx (by omega)).mono ?_
            rintro e v21 ⟨rfl, hb21⟩
            replace hp := hp.below hb21
            replace hq := hq.below hb21
            replace hz := hz.below hb21
            replace rx := rx.below hb21
            replace ry := ry.below hb21
            replace hW := bstep0 hW hb21
            clear hb21
            have kp := hp.cell
            have kq := hq.cell
            have kz := hz.cell
            go_wp2_with fail
            clear kp kq kz
            refine (natOf x hx _).mono ?_
            rintro e v31 ⟨Ao, no, co, rfl, ho, hno, hb31⟩
            replace hp := hp.below hb31
            replace hq := hq.below hb31
            replace hz := hz.below hb31
            replace rx := rx.below hb31
            replace ry := ry.below hb31
            replace hW := bstep0 hW hb31
            clear hb31
            have kp := hp.cell
            have kq := hq.cell
            have kz := hz.cell
            go_wp2_with fail
            clear kp kq kz
            refine (refOf _ 1 1 [x] _ (rowOne _ x _ rfl) (Dig.Below.cons hx (Dig.Below.nil _)) (by omega)).mono ?_
            rintro e v32 ⟨Ar, nr, cr, rfl, hr, hnr, hb32⟩
            have hb32 := ((Below.refl _ _).alloc (Nat.le_refl _) _).trans (hb32.mono (Nat.le_of_lt (by simp)))
            replace hp := hp.below hb32
            replace hq := hq.below hb32
            replace hz := hz.below hb32
            replace rx := rx.below hb32
            replace ry := ry.below hb32
            replace ho := ho.below hb32
            replace hW := bstep0 hW hb32
            clear hb32
            have hvx : Dig.val LB [x] = x := by simp [Dig.val]
            rw [hvx] at hr
            clear hvx
            have kp := hp.cell
            have kq := hq.cell
            have kz := hz.cell
            go_wp2_with fail
            clear kp kq kz
            refine (isYes ho hr (by omega)).mono ?_
            rintro e v33 ⟨rfl, hb33⟩
            replace hp := hp.below hb33
            replace hq := hq.below hb33
            replace hz := hz.below hb33
            replace rx := rx.below hb33
            replace ry := ry.below hb33
            replace hW := bstep0 hW hb33
            clear hb33
            clear ho hr
            have kp := hp.cell
            have kq := hq.cell
            have kz := hz.cell
            go_wp2_with fail
            clear kp kq kz
            refine (isYes (Num.zero _ 0) (RNum.zero _ 0) (by omega)).mono ?_
            rintro e v34 ⟨rfl, hb34⟩
            replace hp := hp.below hb34
            replace hq := hq.below hb34
            replace hz := hz.below hb34
            replace rx := rx.below hb34
            replace ry := ry.below hb34
            replace hW := bstep0 hW hb34
            clear hb34
            have kp := hp.cell
            have kq := hq.cell
            have kz := hz.cell
            go_wp2_with fail
            clear kp kq kz
            refine (refCmp_is ry rx e1.out).mono ?_
            rintro e v35 ⟨rfl, hb35⟩
            replace hp := hp.below hb35
            replace hq := hq.below hb35
            replace hz := hz.below hb35
            replace rx := rx.below hb35
            replace ry := ry.below hb35
            replace hW := bstep0 hW hb35
            clear hb35
            have kp := hp.cell
            have kq := hq.cell
            have kz := hz.cell
            go_wp2_with fail
            clear kp kq kz
            refine (natCmp hp.num hq.num).mono ?_
            rintro e v36 ⟨rfl, hb36⟩
            replace hp := hp.below hb36
            replace hq := hq.below hb36
            replace hz := hz.below hb36
            replace rx := rx.below hb36
            replace ry := ry.below hb36
            replace hW := bstep0 hW hb36
            clear hb36
            have kp := hp.cell
            have kq := hq.cell
            have kz := hz.cell
            go_wp2_with fail
            clear kp kq kz
            refine (refCmp rx ry).mono ?_
            rintro e v37 ⟨rfl, hb37⟩
            replace hp := hp.below hb37
            replace hq := hq.below hb37
            replace hz := hz.below hb37
            replace rx := rx.below hb37
            replace ry := ry.below hb37
            replace hW := bstep0 hW hb37
            clear hb37
            have kp := hp.cell
            have kq := hq.cell
            have kz := hz.cell
            go_wp2_with fail
            clear kp kq kz
            refine (natCmp hq.num hp.num).mono ?_
            rintro e v38 ⟨rfl, hb38⟩
            replace hp := hp.below hb38
            replace hq := hq.below hb38
            replace hz := hz.below hb38
            replace rx := rx.below hb38
            replace ry := ry.below hb38
            replace hW := bstep0 hW hb38
            clear hb38
            have kp := hp.cell
            have kq := hq.cell
            have kz := hz.cell
            go_wp2_with fail
            clear kp kq kz
            refine (refCmp ry rx).mono ?_
            rintro e v39 ⟨rfl, hb39⟩
            replace hp := hp.below hb39
            replace hq := hq.below hb39
            replace hz := hz.below hb39
            replace rx := rx.below hb39
            replace ry := ry.below hb39
            replace hW := bstep0 hW hb39
            clear hb39
            have kp := hp.cell
            have kq := hq.cell
            have kz := hz.cell
            go_wp2_with fail
            clear kp kq kz
            refine (natCmpIs hp.num hp.num e2.out).mono ?_
            rintro e v40 ⟨rfl, hb40⟩
            replace hp := hp.below hb40
            replace hq := hq.below hb40
            replace hz := hz.below hb40
            replace rx := rx.below hb40
            replace ry := ry.below hb40
            replace hW := bstep0 hW hb40
            clear hb40
            have kp := hp.cell
            have kq := hq.cell
            have kz := hz.cell
            go_wp2_with fail
            clear kp kq kz
            refine (natMax _ 2 2 (two 0 Y) _ (nrow_two hp hq (by omega) (by omega) rfl) (by omega)).mono ?_
            rintro e v41 ⟨Am41, nm41, cm41, rfl, hm41, hnm41, hb41⟩
            have hb41 := ((Below.refl _ _).alloc (Nat.le_refl _) _).trans (hb41.mono (Nat.le_of_lt (by simp)))
            replace hp := hp.below hb41
            replace hq := hq.below hb41
            replace hz := hz.below hb41
            replace rx := rx.below hb41
            replace ry := ry.below hb41
            replace hW := bstep0 hW hb41
            clear hb41
            rw [e3.out] at hm41
            have kp := hp.cell
            have kq := hq.cell
            have kz := hz.cell
            go_wp2_with fail
            clear kp kq kz
            refine (isYes hm41 rx (by omega)).mono ?_
            rintro e v42 ⟨rfl, hb42⟩
            replace hp := hp.below hb42
            replace hq := hq.below hb42
            replace hz := hz.below hb42
            replace rx := rx.below hb42
            replace ry := ry.below hb42
            replace hW := bstep0 hW hb42
            clear hb42
            clear hm41
            have kp := hp.cell
            have kq := hq.cell
            have kz := hz.cell
            go_wp2_with fail
            clear kp kq kz
            refine (natMax none 0 0 (two 0 0) _ (nrow_none _ _) (by omega)).mono ?_
            rintro e v43 ⟨Am43, nm43, cm43, rfl, hm43, hnm43, hb43⟩
            replace hp := hp.below hb43
            replace hq := hq.below hb43
            replace hz := hz.below hb43
            replace rx := rx.below hb43
            replace ry := ry.below hb43
            replace hW := bstep0 hW hb43
            clear hb43
            have kp := hp.cell
            have kq := hq.cell
            have kz := hz.cell
            go_wp2_with fail
            clear kp kq kz
            refine (isYes hm43 (RNum.zero _ 0) (by omega)).mono ?_
            rintro e v44 ⟨rfl, hb44⟩
            replace hp := hp.below hb44
            replace hq := hq.below hb44
            replace hz := hz.below hb44
            replace rx := rx.below hb44
            replace ry := ry.below hb44
            replace hW := bstep0 hW hb44
            clear hb44
            clear hm43
            have kp := hp.cell
            have kq := hq.cell
            have kz := hz.cell
            go_wp2_with fail
            clear kp kq kz
            refine (natMax _ 3 3 (three Y) _ (nrow_three hq (by omega) rfl) (by omega)).mono ?_
            rintro e v45 ⟨Am45, nm45, cm45, rfl, hm45, hnm45, hb45⟩
            have hb45 := ((Below.refl _ _).alloc (Nat.le_refl _) _).trans (hb45.mono (Nat.le_of_lt (by simp)))
            replace hp := hp.below hb45
            replace hq := hq.below hb45
            replace hz := hz.below hb45
            replace rx := rx.below hb45
            replace ry := ry.below hb45
            replace hW := bstep0 hW hb45
            clear hb45
            rw [e4.out] at hm45
            have kp := hp.cell
            have kq := hq.cell
            have kz := hz.cell
            go_wp2_with fail
            clear kp kq kz
            refine (isYes hm45 ry (by omega)).mono ?_
            rintro e v46 ⟨rfl, hb46⟩
            replace hp := hp.below hb46
            replace hq := hq.below hb46
            replace hz := hz.below hb46
            replace rx := rx.below hb46
            replace ry := ry.below hb46
            replace hW := bstep0 hW hb46
            clear hb46
            clear hm45
            have kp := hp.cell
            have kq := hq.cell
            have kz := hz.cell
            go_wp2_with fail
            clear kp kq kz
            refine (works_any _).mono ?_
            rintro e v47 ⟨rfl, hb47⟩
            replace hp := hp.below hb47
            replace hq := hq.below hb47
            replace hz := hz.below hb47
            replace rx := rx.below hb47
            replace ry := ry.below hb47
            replace hW := bstep0 hW hb47
            clear hb47
            have kp := hp.cell
            have kq := hq.cell
            have kz := hz.cell
            go_wp2_with fail
            clear kp kq kz
            go_ret
            exact ⟨rfl, hW⟩
        · have hXb := Lib.hid ((hlim 1).1 hs1)
          have h0 := Lib.hid h0
          clear hlim
          have e2 := Lib.hid (cmpI_eq (show X = X from rfl))
          have e4 := Lib.hid (max_three Y)
          rcases Nat.lt_or_ge X Y with hm1 | hm1
          · have e1 := Lib.hid (cmpI_gt hm1)
            have e3 := Lib.hid (show maxN (two X Y) 2 = Y by rw [max_two, if_pos hm1])
            clear hm1
            go_wp2_with fail
            have hb10 : Below wr.heap.size wr (wr.alloc (.cells #[.slice none 0 0] 28)) := (Below.refl _ _).alloc (Nat.le_refl _) _
            have hz : Bx (wr.alloc (.cells #[.slice none 0 0] 28)) wr.heap.size none 0 0 0 0 := ⟨by simp [go_sem], by simp [go_sem], Num.zero _ _⟩
            replace hp := hp.below hb10
            replace hq := hq.below hb10
            replace rx := rx.below hb10
            replace ry := ry.below hb10
            replace hW := bstep0 hW hb10
            clear hb10 kp hgp hgq
            generalize wr.alloc (.cells #[.slice none 0 0] 28) = V at *
            generalize wr.heap.size = gz at *
            generalize w5.heap.size + 1 = gq at *
            generalize w5.heap.size = gp at *
            refine (natSmall_yes A1 n1 c1 _ _ _ hp.num hs1).mono ?_
            rintro e v11 ⟨rfl, hb11⟩
            replace hp := hp.below hb11
            replace hq := hq.below hb11
            replace hz := hz.below hb11
            replace rx := rx.below hb11
            replace ry := ry.below hb11
            replace hW := bstep0 hW hb11
            clear hb11
            have kp := hp.cell
            have kq := hq.cell
            have kz := hz.cell
            go_wp2_with fail
            clear kp kq kz
            refine (refLimbs rx (by omega)).mono ?_
            rintro e v20 ⟨AL, kL, cL, L, rfl, hownL, hvL, hbL, hkL, hb20⟩
            replace hp := hp.below hb20
            replace hq := hq.below hb20
            replace hz := hz.below hb20
            replace rx := rx.below hb20
            replace ry := ry.below hb20
            replace hW := bstep0 hW hb20
            clear hb20
            have hk1 : kL = 1 := by
              have e1 := (hkL 1).2 hXb.out
              have e2 : ¬ kL ≤ 0 := fun h => by have := (hkL 0).1 h; have := h0.out; simp at *; omega
              omega
            subst hk1
            have hL1 := one_limb hownL.len.symm hvL
            rw [hL1] at hownL
            obtain ⟨adL, rfl, hadL, hcL⟩ := hownL.row.at_ (i := 0) (by omega)
            have hcL : v20.cell? adL = some (.int .u64 (X : Int)) := hcL
            clear hownL hvL hbL hkL hL1 hadL
            have kp := hp.cell
            have kq := hq.cell
            have kz := hz.cell
            go_wp2_with fail
            clear kp kq kz
            clear hcL
            refine (isYes hp.num rx (by omega)).mono ?_
            rintro e v21 ⟨rfl, hb21⟩
            replace hp := hp.below hb21
            replace hq := hq.below hb21
            replace hz := hz.below hb21
            replace rx := rx.below hb21
            replace ry := ry.below hb21
            replace hW := bstep0 hW hb21
            clear hb21
            have kp := hp.cell
            have kq := hq.cell
            have kz := hz.cell
            go_wp2_with fail
            clear kp kq kz
            refine (natOf x hx _).mono ?_
            rintro e v31 ⟨Ao, no, co, rfl, ho, hno, hb31⟩
            replace hp := hp.below hb31
            replace hq := hq.below hb31
            replace hz := hz.below hb31
            replace rx := rx.below hb31
            replace ry := ry.below hb31
            replace hW := bstep0 hW hb31
            clear hb31
            have kp := hp.cell
            have kq := hq.cell
            have kz := hz.cell
            go_wp2_with fail
            clear kp kq kz
            refine (refOf _ 1 1 [x] _ (rowOne _ x _ rfl) (Dig.Below.cons hx (Dig.Below.nil _)) (by omega)).mono ?_
            rintro e v32 ⟨Ar, nr, cr, rfl, hr, hnr, hb32⟩
            have hb32 := ((Below.refl _ _).alloc (Nat.le_refl _) _).trans (hb32.mono (Nat.le_of_lt (by simp)))
            replace hp := hp.below hb32
            replace hq := hq.below hb32
            replace hz := hz.below hb32
            replace rx := rx.below hb32
            replace ry := ry.below hb32
            replace ho := ho.below hb32
            replace hW := bstep0 hW hb32
            clear hb32
            have hvx : Dig.val LB [x] = x := by simp [Dig.val]
            rw [hvx] at hr
            clear hvx
            have kp := hp.cell
            have kq := hq.cell
            have kz := hz.cell
            go_wp2_with fail
            clear kp kq kz
            refine (isYes ho hr (by omega)).mono ?_
            rintro e v33 ⟨rfl, hb33⟩
            replace hp := hp.below hb33
            replace hq := hq.below hb33
            replace hz := hz.below hb33
            replace rx := rx.below hb33
            replace ry := ry.below hb33
            replace hW := bstep0 hW hb33
            clear hb33
            clear ho hr
            have kp := hp.cell
            have kq := hq.cell
            have kz := hz.cell
            go_wp2_with fail
            clear kp kq kz
            refine (isYes (Num.zero _ 0) (RNum.zero _ 0) (by omega)).mono ?_
            rintro e v34 ⟨rfl, hb34⟩
            replace hp := hp.below hb34
            replace hq := hq.below hb34
            replace hz := hz.below hb34
            replace rx := rx.below hb34
            replace ry := ry.below hb34
            replace hW := bstep0 hW hb34
            clear hb34
            have kp := hp.cell
            have kq := hq.cell
            have kz := hz.cell
            go_wp2_with fail
            clear kp kq kz
            refine (refCmp_is ry rx e1.out).mono ?_
            rintro e v35 ⟨rfl, hb35⟩
            replace hp := hp.below hb35
            replace hq := hq.below hb35
            replace hz := hz.below hb35
            replace rx := rx.below hb35
            replace ry := ry.below hb35
            replace hW := bstep0 hW hb35
            clear hb35
            have kp := hp.cell
            have kq := hq.cell
            have kz := hz.cell
            go_wp2_with fail
            clear kp kq kz
            refine (natCmp hp.num hq.num).mono ?_
            rintro e v36 ⟨rfl, hb36⟩
            replace hp := hp.below hb36
            replace hq := hq.below hb36
            replace hz := hz.below hb36
            replace rx := rx.below hb36
            replace ry := ry.below hb36
            replace hW := bstep0 hW hb36
            clear hb36
            have kp := hp.cell
            have kq := hq.cell
            have kz := hz.cell
            go_wp2_with fail
            clear kp kq kz
            refine (refCmp rx ry).mono ?_
            rintro e v37 ⟨rfl, hb37⟩
            replace hp := hp.below hb37
            replace hq := hq.below hb37
            replace hz := hz.below hb37
            replace rx := rx.below hb37
            replace ry := ry.below hb37
            replace hW := bstep0 hW hb37
            clear hb37
            have kp := hp.cell
            have kq := hq.cell
            have kz := hz.cell
            go_wp2_with fail
            clear kp kq kz
            refine (natCmp hq.num hp.num).mono ?_
            rintro e v38 ⟨rfl, hb38⟩
            replace hp := hp.below hb38
            replace hq := hq.below hb38
            replace hz := hz.below hb38
            replace rx := rx.below hb38
            replace ry := ry.below hb38
            replace hW := bstep0 hW hb38
            clear hb38
            have kp := hp.cell
            have kq := hq.cell
            have kz := hz.cell
            go_wp2_with fail
            clear kp kq kz
            refine (refCmp ry rx).mono ?_
            rintro e v39 ⟨rfl, hb39⟩
            replace hp := hp.below hb39
            replace hq := hq.below hb39
            replace hz := hz.below hb39
            replace rx := rx.below hb39
            replace ry := ry.below hb39
            replace hW := bstep0 hW hb39
            clear hb39
            have kp := hp.cell
            have kq := hq.cell
            have kz := hz.cell
            go_wp2_with fail
            clear kp kq kz
            refine (natCmpIs hp.num hp.num e2.out).mono ?_
            rintro e v40 ⟨rfl, hb40⟩
            replace hp := hp.below hb40
            replace hq := hq.below hb40
            replace hz := hz.below hb40
            replace rx := rx.below hb40
            replace ry := ry.below hb40
            replace hW := bstep0 hW hb40
            clear hb40
            have kp := hp.cell
            have kq := hq.cell
            have kz := hz.cell
            go_wp2_with fail
            clear kp kq kz
            refine (natMax _ 2 2 (two X Y) _ (nrow_two hp hq (by omega) (by omega) rfl) (by omega)).mono ?_
            rintro e v41 ⟨Am41, nm41, cm41, rfl, hm41, hnm41, hb41⟩
            have hb41 := ((Below.refl _ _).alloc (Nat.le_refl _) _).trans (hb41.mono (Nat.le_of_lt (by simp)))
            replace hp := hp.below hb41
            replace hq := hq.below hb41
            replace hz := hz.below hb41
            replace rx := rx.below hb41
            replace ry := ry.below hb41
            replace hW := bstep0 hW hb41
            clear hb41
            rw [e3.out] at hm41
            have kp := hp.cell
            have kq := hq.cell
            have kz := hz.cell
            go_wp2_with fail
            clear kp kq kz
            refine (isYes hm41 ry (by omega)).mono ?_
            rintro e v42 ⟨rfl, hb42⟩
            replace hp := hp.below hb42
            replace hq := hq.below hb42
            replace hz := hz.below hb42
            replace rx := rx.below hb42
            replace ry := ry.below hb42
            replace hW := bstep0 hW hb42
            clear hb42
            clear hm41
            have kp := hp.cell
            have kq := hq.cell
            have kz := hz.cell
            go_wp2_with fail
            clear kp kq kz
            refine (natMax none 0 0 (two 0 0) _ (nrow_none _ _) (by omega)).mono ?_
            rintro e v43 ⟨Am43, nm43, cm43, rfl, hm43, hnm43, hb43⟩
            replace hp := hp.below hb43
            replace hq := hq.below hb43
            replace hz := hz.below hb43
            replace rx := rx.below hb43
            replace ry := ry.below hb43
            replace hW := bstep0 hW hb43
            clear hb43
            have kp := hp.cell
            have kq := hq.cell
            have kz := hz.cell
            go_wp2_with fail
            clear kp kq kz
            refine (isYes hm43 (RNum.zero _ 0) (by omega)).mono ?_
            rintro e v44 ⟨rfl, hb44⟩
            replace hp := hp.below hb44
            replace hq := hq.below hb44
            replace hz := hz.below hb44
            replace rx := rx.below hb44
            replace ry := ry.below hb44
            replace hW := bstep0 hW hb44
            clear hb44
            clear hm43
            have kp := hp.cell
            have kq := hq.cell
            have kz := hz.cell
            go_wp2_with fail
            clear kp kq kz
            refine (natMax _ 3 3 (three Y) _ (nrow_three hq (by omega) rfl) (by omega)).mono ?_
            rintro e v45 ⟨Am45, nm45, cm45, rfl, hm45, hnm45, hb45⟩
            have hb45 := ((Below.refl _ _).alloc (Nat.le_refl _) _).trans (hb45.mono (Nat.le_of_lt (by simp)))
            replace hp := hp.below hb45
            replace hq := hq.below hb45
            replace hz := hz.below hb45
            replace rx := rx.below hb45
            replace ry := ry.below hb45
            replace hW := bstep0 hW hb45
            clear hb45
            rw [e4.out] at hm45
            have kp := hp.cell
            have kq := hq.cell
            have kz := hz.cell
            go_wp2_with fail
            clear kp kq kz
            refine (isYes hm45 ry (by omega)).mono ?_
            rintro e v46 ⟨rfl, hb46⟩
            replace hp := hp.below hb46
            replace hq := hq.below hb46
            replace hz := hz.below hb46
            replace rx := rx.below hb46
            replace ry := ry.below hb46
            replace hW := bstep0 hW hb46
            clear hb46
            clear hm45
            have kp := hp.cell
            have kq := hq.cell
            have kz := hz.cell
            go_wp2_with fail
            clear kp kq kz
            refine (works_any _).mono ?_
            rintro e v47 ⟨rfl, hb47⟩
            replace hp := hp.below hb47
            replace hq := hq.below hb47
            replace hz := hz.below hb47
            replace rx := rx.below hb47
            replace ry := ry.below hb47
            replace hW := bstep0 hW hb47
            clear hb47
            have kp := hp.cell
            have kq := hq.cell
            have kz := hz.cell
            go_wp2_with fail
            clear kp kq kz
            go_ret
            exact ⟨rfl, hW⟩
          · obtain ⟨z, hz1, hz2⟩ : ∃ z : Int, cmpI Y X = z ∧ z ≤ 0 := ⟨_, rfl, by unfold cmpI; split <;> (try split) <;> omega⟩
            have hz3 : decide (0 < z) = false := by simp; omega
            have e1 := Lib.hid hz1
            have e3 := Lib.hid (show maxN (two X Y) 2 = X by rw [max_two, if_neg (by omega)])
            clear hm1 hz1 hz2
            go_wp2_with fail
            have hb10 : Below wr.heap.size wr (wr.alloc (.cells #[.slice none 0 0] 28)) := (Below.refl _ _).alloc (Nat.le_refl _) _
            have hz : Bx (wr.alloc (.cells #[.slice none 0 0] 28)) wr.heap.size none 0 0 0 0 := ⟨by simp [go_sem], by simp [go_sem], Num.zero _ _⟩
            replace hp := hp.below hb10
            replace hq := hq.below hb10
            replace rx := rx.below hb10
            replace ry := ry.below hb10
            replace hW := bstep0 hW hb10
            clear hb10 kp hgp hgq
            generalize wr.alloc (.cells #[.slice none 0 0] 28) = V at *
            generalize wr.heap.size = gz at *
            generalize w5.heap.size + 1 = gq at *
            generalize w5.heap.size = gp at *
            refine (natSmall_yes A1 n1 c1 _ _ _ hp.num hs1).mono ?_
            rintro e v11 ⟨rfl, hb11⟩
            replace hp := hp.below hb11
            replace hq := hq.below hb11
            replace hz := hz.below hb11
            replace rx := rx.below hb11
            replace ry := ry.below hb11
            replace hW := bstep0 hW hb11
            clear hb11
            have kp := hp.cell
            have kq := hq.cell
            have kz := hz.cell
            go_wp2_with fail
            clear kp kq kz
            refine (refLimbs rx (by omega)).mono ?_
            rintro e v20 ⟨AL, kL, cL, L, rfl, hownL, hvL, hbL, hkL, hb20⟩
            replace hp := hp.below hb20
            replace hq := hq.below hb20
            replace hz := hz.below hb20
            replace rx := rx.below hb20
            replace ry := ry.below hb20
            replace hW := bstep0 hW hb20
            clear hb20
            have hk1 : kL = 1 := by
              have e1 := (hkL 1).2 hXb.out
              have e2 : ¬ kL ≤ 0 := fun h => by have := (hkL 0).1 h; have := h0.out; simp at *; omega
              omega
            subst hk1
            have hL1 := one_limb hownL.len.symm hvL
            rw [hL1] at hownL
            obtain ⟨adL, rfl, hadL, hcL⟩ := hownL.row.at_ (i := 0) (by omega)
            have hcL : v20.cell? adL = some (.int .u64 (X : Int)) := hcL
            clear hownL hvL hbL hkL hL1 hadL
            have kp := hp.cell
            have kq := hq.cell
            have kz := hz.cell
            go_wp2_with fail
            clear kp kq kz
            clear hcL
            refine (isYes hp.num rx (by omega)).mono ?_
            rintro e v21 ⟨rfl, hb21⟩
            replace hp := hp.below hb21
            replace hq := hq.below hb21
            replace hz := hz.below hb21
            replace rx := rx.below hb21
            replace ry := ry.below hb21
            replace hW := bstep0 hW hb21
            clear hb21
            have kp := hp.cell
            have kq := hq.cell
            have kz := hz.cell
            go_wp2_with fail
            clear kp kq kz
            refine (natOf x hx _).mono ?_
            rintro e v31 ⟨Ao, no, co, rfl, ho, hno, hb31⟩
            replace hp := hp.below hb31
            replace hq := hq.below hb31
            replace hz := hz.below hb31
            replace rx := rx.below hb31
            replace ry := ry.below hb31
            replace hW := bstep0 hW hb31
            clear hb31
            have kp := hp.cell
            have kq := hq.cell
            have kz := hz.cell
            go_wp2_with fail
            clear kp kq kz
            refine (refOf _ 1 1 [x] _ (rowOne _ x _ rfl) (Dig.Below.cons hx (Dig.Below.nil _)) (by omega)).mono ?_
            rintro e v32 ⟨Ar, nr, cr, rfl, hr, hnr, hb32⟩
            have hb32 := ((Below.refl _ _).alloc (Nat.le_refl _) _).trans (hb32.mono (Nat.le_of_lt (by simp)))
            replace hp := hp.below hb32
            replace hq := hq.below hb32
            replace hz := hz.below hb32
            replace rx := rx.below hb32
            replace ry := ry.below hb32
            replace ho := ho.below hb32
            replace hW := bstep0 hW hb32
            clear hb32
            have hvx : Dig.val LB [x] = x := by simp [Dig.val]
            rw [hvx] at hr
            clear hvx
            have kp := hp.cell
            have kq := hq.cell
            have kz := hz.cell
            go_wp2_with fail
            clear kp kq kz
            refine (isYes ho hr (by omega)).mono ?_
            rintro e v33 ⟨rfl, hb33⟩
            replace hp := hp.below hb33
            replace hq := hq.below hb33
            replace hz := hz.below hb33
            replace rx := rx.below hb33
            replace ry := ry.below hb33
            replace hW := bstep0 hW hb33
            clear hb33
            clear ho hr
            have kp := hp.cell
            have kq := hq.cell
            have kz := hz.cell
            go_wp2_with fail
            clear kp kq kz
            refine (isYes (Num.zero _ 0) (RNum.zero _ 0) (by omega)).mono ?_
            rintro e v34 ⟨rfl, hb34⟩
            replace hp := hp.below hb34
            replace hq := hq.below hb34
            replace hz := hz.below hb34
            replace rx := rx.below hb34
            replace ry := ry.below hb34
            replace hW := bstep0 hW hb34
            clear hb34
            have kp := hp.cell
            have kq := hq.cell
            have kz := hz.cell
            go_wp2_with fail
            clear kp kq kz
            refine (refCmp_is ry rx e1.out).mono ?_
            rintro e v35 ⟨rfl, hb35⟩
            replace hp := hp.below hb35
            replace hq := hq.below hb35
            replace hz := hz.below hb35
            replace rx := rx.below hb35
            replace ry := ry.below hb35
            replace hW := bstep0 hW hb35
            clear hb35
            have kp := hp.cell
            have kq := hq.cell
            have kz := hz.cell
            go_wp2_with fail
            clear kp kq kz
            refine (natCmp hp.num hq.num).mono ?_
            rintro e v36 ⟨rfl, hb36⟩
            replace hp := hp.below hb36
            replace hq := hq.below hb36
            replace hz := hz.below hb36
            replace rx := rx.below hb36
            replace ry := ry.below hb36
            replace hW := bstep0 hW hb36
            clear hb36
            have kp := hp.cell
            have kq := hq.cell
            have kz := hz.cell
            go_wp2_with fail
            clear kp kq kz
            refine (refCmp rx ry).mono ?_
            rintro e v37 ⟨rfl, hb37⟩
            replace hp := hp.below hb37
            replace hq := hq.below hb37
            replace hz := hz.below hb37
            replace rx := rx.below hb37
            replace ry := ry.below hb37
            replace hW := bstep0 hW hb37
            clear hb37
            have kp := hp.cell
            have kq := hq.cell
            have kz := hz.cell
            go_wp2_with fail
            clear kp kq kz
            refine (natCmp hq.num hp.num).mono ?_
            rintro e v38 ⟨rfl, hb38⟩
            replace hp := hp.below hb38
            replace hq := hq.below hb38
            replace hz := hz.below hb38
            replace rx := rx.below hb38
            replace ry := ry.below hb38
            replace hW := bstep0 hW hb38
            clear hb38
            have kp := hp.cell
            have kq := hq.cell
            have kz := hz.cell
            go_wp2_with fail
            clear kp kq kz
            refine (refCmp ry rx).mono ?_
            rintro e v39 ⟨rfl, hb39⟩
            replace hp := hp.below hb39
            replace hq := hq.below hb39
            replace hz := hz.below hb39
            replace rx := rx.below hb39
            replace ry := ry.below hb39
            replace hW := bstep0 hW hb39
            clear hb39
            have kp := hp.cell
            have kq := hq.cell
            have kz := hz.cell
            go_wp2_with fail
            clear kp kq kz
            refine (natCmpIs hp.num hp.num e2.out).mono ?_
            rintro e v40 ⟨rfl, hb40⟩
            replace hp := hp.below hb40
            replace hq := hq.below hb40
            replace hz := hz.below hb40
            replace rx := rx.below hb40
            replace ry := ry.below hb40
            replace hW := bstep0 hW hb40
            clear hb40
            have kp := hp.cell
            have kq := hq.cell
            have kz := hz.cell
            go_wp2_with fail
            clear kp kq kz
            refine (natMax _ 2 2 (two X Y) _ (nrow_two hp hq (by omega) (by omega) rfl) (by omega)).mono ?_
            rintro e v41 ⟨Am41, nm41, cm41, rfl, hm41, hnm41, hb41⟩
            have hb41 := ((Below.refl _ _).alloc (Nat.le_refl _) _).trans (hb41.mono (Nat.le_of_lt (by simp)))
            replace hp := hp.below hb41
            replace hq := hq.below hb41
            replace hz := hz.below hb41
            replace rx := rx.below hb41
            replace ry := ry.below hb41
            replace hW := bstep0 hW hb41
            clear hb41
            rw [e3.out] at hm41
            have kp := hp.cell
            have kq := hq.cell
            have kz := hz.cell
            go_wp2_with fail
            clear kp kq kz
            refine (isYes hm41 rx (by omega)).mono ?_
            rintro e v42 ⟨rfl, hb42⟩
            replace hp := hp.below hb42
            replace hq := hq.below hb42
            replace hz := hz.below hb42
            replace rx := rx.below hb42
            replace ry := ry.below hb42
            replace hW := bstep0 hW hb42
            clear hb42
            clear hm41
            have kp := hp.cell
            have kq := hq.cell
            have kz := hz.cell
            go_wp2_with fail
            clear kp kq kz
            refine (natMax none 0 0 (two 0 0) _ (nrow_none _ _) (by omega)).mono ?_
            rintro e v43 ⟨Am43, nm43, cm43, rfl, hm43, hnm43, hb43⟩
            replace hp := hp.below hb43
            replace hq := hq.below hb43
            replace hz := hz.below hb43
            replace rx := rx.below hb43
            replace ry := ry.below hb43
            replace hW := bstep0 hW hb43
            clear hb43
            have kp := hp.cell
            have kq := hq.cell
            have kz := hz.cell
            go_wp2_with fail
            clear kp kq kz
            refine (isYes hm43 (RNum.zero _ 0) (by omega)).mono ?_
            rintro e v44 ⟨rfl, hb44⟩
            replace hp := hp.below hb44
            replace hq := hq.below hb44
            replace hz := hz.below hb44
            replace rx := rx.below hb44
            replace ry := ry.below hb44
            replace hW := bstep0 hW hb44
            clear hb44
            clear hm43
            have kp := hp.cell
            have kq := hq.cell
            have kz := hz.cell
            go_wp2_with fail
            clear kp kq kz
            refine (natMax _ 3 3 (three Y) _ (nrow_three hq (by omega) rfl) (by omega)).mono ?_
            rintro e v45 ⟨Am45, nm45, cm45, rfl, hm45, hnm45, hb45⟩
            have hb45 := ((Below.refl _ _).alloc (Nat.le_refl _) _).trans (hb45.mono (Nat.le_of_lt (by simp)))
            replace hp := hp.below hb45
            replace hq := hq.below hb45
            replace hz := hz.below hb45
            replace rx := rx.below hb45
            replace ry := ry.below hb45
            replace hW := bstep0 hW hb45
            clear hb45
            rw [e4.out] at hm45
            have kp := hp.cell
            have kq := hq.cell
            have kz := hz.cell
            go_wp2_with fail
            clear kp kq kz
            refine (isYes hm45 ry (by omega)).mono ?_
            rintro e v46 ⟨rfl, hb46⟩
            replace hp := hp.below hb46
            replace hq := hq.below hb46
            replace hz := hz.below hb46
            replace rx := rx.below hb46
            replace ry := ry.below hb46
            replace hW := bstep0 hW hb46
            clear hb46
            clear hm45
            have kp := hp.cell
            have kq := hq.cell
            have kz := hz.cell
            go_wp2_with fail
            clear kp kq kz
            refine (works_any _).mono ?_
            rintro e v47 ⟨rfl, hb47⟩
            replace hp := hp.below hb47
            replace hq := hq.below hb47
            replace hz := hz.below hb47
            replace rx := rx.below hb47
            replace ry := ry.below hb47
            replace hW := bstep0 hW hb47
            clear hb47
            have kp := hp.cell
            have kq := hq.cell
            have kz := hz.cell
            go_wp2_with fail
            clear kp kq kz
            go_ret
            exact ⟨rfl, hW⟩
end Go.Proofs.Ytamknndngjoncaa
