/- Declarations and programs, their size and depth: the reference of layer 6. -/
import Derived.Test.YtkmioieanopafaaDoorAstD
namespace Go.Proofs.YtkmioieanopafaaDoor
open Go.RowKit

/-- A declaration: nine cells. -/
structure DV where
  k : Int
  x : List UInt8
  lo : Int
  hi : Int
  sz : Int
  ps : List (List UInt8)
  body : List SV
  l : Int
  c : Int
def DE (W : World) (p : Addr) (d : DV) : Prop := ∃ (A1 : Option Addr) (c1 : Nat) (A2 : Option Addr) (c2 : Nat), W.cell? p = some (.int .i64 d.k) ∧ W.cell? ⟨p.block, p.off + 1, none⟩ = some (.string ⟨d.x.toArray⟩) ∧ W.cell? ⟨p.block, p.off + 2, none⟩ = some (.int .i64 d.lo) ∧ W.cell? ⟨p.block, p.off + 3, none⟩ = some (.int .i64 d.hi) ∧ W.cell? ⟨p.block, p.off + 4, none⟩ = some (.int .i64 d.sz) ∧ W.cell? ⟨p.block, p.off + 5, none⟩ = some (.slice A1 d.ps.length c1) ∧ W.cell? ⟨p.block, p.off + 6, none⟩ = some (.slice A2 d.body.length c2) ∧ W.cell? ⟨p.block, p.off + 7, none⟩ = some (.int .i64 d.l) ∧ W.cell? ⟨p.block, p.off + 8, none⟩ = some (.int .i64 d.c) ∧ RowS W A1 d.ps.length d.ps ∧ SR W A2 d.body
def DR (W : World) (A : Option Addr) (ds : List DV) : Prop := ds ≠ [] → ∃ ad, A = some ad ∧ ∀ (i : Nat) (d : DV), ds[i]? = some d → DE W (ad.add (i * 9)) d
theorem DE.step {W W' : World} {p : Addr} {d : DV} (h : DE W p d) (hb : Below W.heap.size W W') : DE W' p d := by
  obtain ⟨A1, c1, A2, c2, h0, h1, h2, h3, h4, h5, h6, h7, h8, h9, h10⟩ := h
  exact ⟨A1, c1, A2, c2, cst5 hb h0, cst5 hb h1, cst5 hb h2, cst5 hb h3, cst5 hb h4, cst5 hb h5, cst5 hb h6, cst5 hb h7, cst5 hb h8, h9.below hb, h10.step hb⟩
theorem DR.step {W W' : World} {A : Option Addr} {ds : List DV} (h : DR W A ds) (hb : Below W.heap.size W W') : DR W' A ds := fun h0 => by
  obtain ⟨ad, h1, h2⟩ := h h0
  exact ⟨ad, h1, fun i d hd => (h2 i d hd).step hb⟩
theorem DR.el {W : World} {A : Option Addr} {ds : List DV} (h : DR W A ds) {i : Nat} (hi : i < ds.length) : ∃ ad d, A = some ad ∧ ds[i]? = some d ∧ DE W (ad.add (i * 9)) d := by
  obtain ⟨ad, h1, h2⟩ := h (by rintro rfl; simp at hi)
  exact ⟨ad, ds[i], h1, List.getElem?_eq_getElem hi, h2 i _ (List.getElem?_eq_getElem hi)⟩

/-- How many trees declarations have; how deep they are. -/
def dsz : List DV → Nat
  | [] => 0
  | d :: r => 1 + ssz d.body + dsz r
def ddp : List DV → Nat
  | [] => 0
  | d :: r => max (1 + sdp d.body) (ddp r)
theorem dsz_snoc (r : List DV) (d : DV) : dsz (r ++ [d]) = dsz r + (1 + ssz d.body) := by
  induction r with
  | nil => simp [dsz]
  | cons a r ih => simp only [List.cons_append, dsz, ih]; omega
theorem ddp_snoc (r : List DV) (d : DV) : ddp (r ++ [d]) = max (ddp r) (1 + sdp d.body) := by
  induction r with
  | nil => simp [ddp]
  | cons a r ih => simp only [List.cons_append, ddp, ih]; omega
theorem dsz_take {ds : List DV} {i : Nat} {d : DV} (h : ds[i]? = some d) : dsz (ds.take (i + 1)) = dsz (ds.take i) + (1 + ssz d.body) := by
  rw [List.take_add_one, h]; exact dsz_snoc _ _
theorem ddp_take {ds : List DV} {i : Nat} {d : DV} (h : ds[i]? = some d) : ddp (ds.take (i + 1)) = max (ddp (ds.take i)) (1 + sdp d.body) := by
  rw [List.take_add_one, h]; exact ddp_snoc _ _
theorem dsz_take_le (ds : List DV) (i : Nat) : dsz (ds.take i) ≤ dsz ds := by
  induction ds generalizing i with
  | nil => simp
  | cons a r ih =>
    cases i with
    | zero => simp [dsz]
    | succ i => have := ih i; simp [dsz]; omega
theorem dsz_len (ds : List DV) : ds.length ≤ dsz ds := by
  induction ds with
  | nil => simp
  | cons a r ih => simp [dsz]; omega
theorem ddp_le (ds : List DV) : ddp ds ≤ dsz ds := by
  induction ds with
  | nil => simp [ddp]
  | cons a r ih => have := sdp_le a.body; simp only [ddp, dsz]; omega
/-- A program handed over. -/
def pval (A : Option Addr) (n ca : Nat) (B : Option Addr) (m cb : Nat) : Value := .agg #[.slice A n ca, .slice B m cb]

set_option maxHeartbeats 2000000 in
theorem refSize6 (ds : List DV) (mn : List SV) (hs : ssz mn + dsz ds ≤ 4000000) (A : Option Addr) (ca : Nat) (B : Option Addr) (cb : Nat) (w : World) (hx : DR w A ds) (hy : SR w B mn) : Calls Tryd.prog 28 #[pval A ds.length ca B mn.length cb] w fun e w' => e = .returned (.int .i64 ((ssz mn + dsz ds : Nat) : Int)) ∧ Below w.heap.size w w' := by
  have hV : Hid (dsz (ds.take ds.length) = dsz ds) := by show dsz (ds.take ds.length) = dsz ds; rw [List.take_length]
  have hTL := Lib.hid (dsz_take_le ds)
  have hlen := dsz_len ds
  unfold pval
  have hK := Lib.hid (And.intro (Box.new w [.slice A ds.length ca, .slice B mn.length cb] 46) (bnew5 w (.cells [.slice A ds.length ca, .slice B mn.length cb].toArray 46)))
  have hM := refSizeS (ssz mn) mn (Nat.le_refl _) (by omega) B cb _ (hy.step hK.out.2)
  have hX := Lib.hid hx
  obtain ⟨n, hn⟩ : ∃ n, n = ds.length := ⟨_, rfl⟩
  obtain ⟨m, hm⟩ : ∃ m, m = mn.length := ⟨_, rfl⟩
  obtain ⟨z, hz⟩ : ∃ z, z = ssz mn := ⟨_, rfl⟩
  rw [← hn, ← hm] at hK hM
  rw [← hz] at hM hs
  rw [← hn] at hV hlen
  rw [← hn, ← hm, ← hz]
  have HN := Lib.hid hn
  clear hn hm hz hx hy
  go_enter Tryd.func28, Tryd.ntmps28
  go_wp2_with fail
  refine hM.mono ?_
  rintro e w1 ⟨rfl, hw1⟩
  have hK1 := Lib.hid (And.intro (hK.out.1.step hw1) (bth5 hK.out.2 hw1))
  clear hM hK
  go_wp2_with fail
  go_loopw [3, 4] (fun v u W => ∃ i : Nat, i ≤ n ∧ u = .int .i64 i ∧ v = .int .i64 ((z + dsz (ds.take i) : Nat) : Int) ∧ Hid (Box W w.heap.size [.slice A n ca, .slice B m cb] ∧ Below w.heap.size w W)) (fun _ u _ => n - (intOf u).toNat)
  case atStart => exact ⟨0, by omega, rfl, by simp [dsz], hK1⟩
  case round =>
    obtain ⟨i, hi, rfl, rfl, hbw⟩ := hrel
    clear hK1
    have s0 := hbw.out.1.two
    by_cases hlt : i < n
    · have hlt' : (i : Int) < n := by omega
      obtain ⟨ad, d, rfl, hd, A1, c1, A2, c2, _, _, _, _, _, _, h6, _, _, _, h10⟩ := (hX.out.step hbw.out.2).el (i := i) (by rw [← HN.out]; exact hlt)
      have ht := dsz_take hd
      have ht2 := hTL.out (i + 1)
      have hq := refSizeS (ssz d.body) d.body (Nat.le_refl _) (by omega) A2 c2 wr h10
      have HT := Lib.hid ht
      generalize dsz (ds.take i) = a at *
      generalize ssz d.body = b at *
      have h1 : IntKind.i64.wrap ((z : Int) + a + 1) = (z : Int) + a + 1 := wrap_small _ (by omega) (by omega)
      have h2 : IntKind.i64.wrap ((z : Int) + a + 1 + b) = (z : Int) + a + 1 + b := wrap_small _ (by omega) (by omega)
      clear hd h10 ht
      go_wp2_with fail
      refine hq.mono ?_
      rintro e1 w2 ⟨rfl, hw2⟩
      have hbw2 := Lib.hid (And.intro (hbw.out.1.step hw2) (bth5 hbw.out.2 hw2))
      go_wp2_with fail
      exact ⟨⟨i + 1, by omega, by go_num, by rw [HT.out]; congr 1; omega, hbw2⟩, by simp [intOf]; omega⟩
    · obtain rfl : i = n := by omega
      have hlt' : ¬ (i : Int) < i := by omega
      rw [hV.out]
      go_wp2_with fail
      go_ret
      exact ⟨rfl, hbw.out.2⟩

set_option maxHeartbeats 2000000 in
theorem refDepth6 (ds : List DV) (mn : List SV) (hs : ssz mn + dsz ds ≤ 4000000) (A : Option Addr) (ca : Nat) (B : Option Addr) (cb : Nat) (w : World) (hx : DR w A ds) (hy : SR w B mn) : Calls Tryd.prog 30 #[pval A ds.length ca B mn.length cb] w fun e w' => e = .returned (.int .i64 ((max (sdp mn) (ddp ds) : Nat) : Int)) ∧ Below w.heap.size w w' := by
  have hV : Hid (ddp (ds.take ds.length) = ddp ds) := by show ddp (ds.take ds.length) = ddp ds; rw [List.take_length]
  have hTL := Lib.hid (dsz_take_le ds)
  have hlen := dsz_len ds
  have hzl := sdp_le mn
  unfold pval
  have hK := Lib.hid (And.intro (Box.new w [.slice A ds.length ca, .slice B mn.length cb] 46) (bnew5 w (.cells [.slice A ds.length ca, .slice B mn.length cb].toArray 46)))
  have hM := refDepthS (ssz mn) mn (Nat.le_refl _) (by omega) B cb _ (hy.step hK.out.2)
  have hX := Lib.hid hx
  obtain ⟨n, hn⟩ : ∃ n, n = ds.length := ⟨_, rfl⟩
  obtain ⟨m, hm⟩ : ∃ m, m = mn.length := ⟨_, rfl⟩
  obtain ⟨z, hz⟩ : ∃ z, z = sdp mn := ⟨_, rfl⟩
  rw [← hn, ← hm] at hK hM
  rw [← hz] at hM hzl
  rw [← hn] at hV hlen
  rw [← hn, ← hm, ← hz]
  have HN := Lib.hid hn
  clear hn hm hz hx hy
  go_enter Tryd.func30, Tryd.ntmps30
  go_wp2_with fail
  refine hM.mono ?_
  rintro e w1 ⟨rfl, hw1⟩
  have hK1 := Lib.hid (And.intro (hK.out.1.step hw1) (bth5 hK.out.2 hw1))
  clear hM hK
  go_wp2_with fail
  go_loopw [3, 4] (fun v u W => ∃ i : Nat, i ≤ n ∧ u = .int .i64 i ∧ v = .int .i64 ((max z (ddp (ds.take i)) : Nat) : Int) ∧ Hid (Box W w.heap.size [.slice A n ca, .slice B m cb] ∧ Below w.heap.size w W)) (fun _ u _ => n - (intOf u).toNat)
  case atStart => exact ⟨0, by omega, rfl, by simp [ddp], hK1⟩
  case round =>
    obtain ⟨i, hi, rfl, rfl, hbw⟩ := hrel
    clear hK1
    have s0 := hbw.out.1.two
    by_cases hlt : i < n
    · have hlt' : (i : Int) < n := by omega
      obtain ⟨ad, d, rfl, hd, A1, c1, A2, c2, _, _, _, _, _, _, h6, _, _, _, h10⟩ := (hX.out.step hbw.out.2).el (i := i) (by rw [← HN.out]; exact hlt)
      have ht := dsz_take hd
      have ht2 := hTL.out (i + 1)
      have hq := refDepthS (ssz d.body) d.body (Nat.le_refl _) (by omega) A2 c2 wr h10
      have hdl := sdp_le d.body
      have HT := Lib.hid (ddp_take hd)
      have hb4 : sdp d.body ≤ 4000000 := by omega
      generalize ddp (ds.take i) = a at *
      generalize sdp d.body = b at *
      obtain ⟨q, hq0⟩ : ∃ q, q = max z a := ⟨_, rfl⟩
      have HQ := Lib.hid hq0
      rw [← hq0]
      have h1 : IntKind.i64.wrap (1 + (b : Int)) = 1 + (b : Int) := wrap_small _ (by omega) (by omega)
      clear hd h10 ht ht2 hdl hq0
      go_wp2_with fail
      refine hq.mono ?_
      rintro e1 w2 ⟨rfl, hw2⟩
      have hbw2 := Lib.hid (And.intro (hbw.out.1.step hw2) (bth5 hbw.out.2 hw2))
      go_wp2_with fail
      exact ⟨⟨i + 1, by omega, by go_num, by rw [HT.out]; have := HQ.out; congr 1; omega, hbw2⟩, by simp [intOf]; omega⟩
    · obtain rfl : i = n := by omega
      have hlt' : ¬ (i : Int) < i := by omega
      rw [hV.out]
      obtain ⟨q, hq0⟩ : ∃ q, q = max z (ddp ds) := ⟨_, rfl⟩
      have HQ := Lib.hid hq0
      rw [← hq0]
      clear hq0
      go_wp2_with fail
      go_ret
      exact ⟨by rw [← HQ.out]; rfl, hbw.out.2⟩
end Go.Proofs.YtkmioieanopafaaDoor
