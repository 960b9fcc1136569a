/- Join of names; input, decl (written by tools/gen_prij.py). pretty's Stmts, Expr, Program. The law's num, name, two, one; works of layer 7. -/
import Derived.Test.YtejifkeeihkcjaaDoorGPriI
import Derived.Lib.Join
import Derived.Test.YtejifkeeihkcjaaDoorGOpenA
namespace Go.Proofs.YtejifkeeihkcjaaDoor
section
open Go.RowKit

theorem spot_none {W : World} {p : Addr} {v : Value} (h : W.cell? p = some v) : p.spot = none := by
  unfold World.cell? at h
  split at h
  · cases hs : p.spot with
    | none => rfl
    | some k => rw [hs] at h; simp at h
  · cases h
theorem layM_join : ∀ ps : List (List UInt8), byts (layM ps) = Lib.joinTail [44, 32] ps
  | [] => rfl
  | x :: r => by
    simp only [layM, byts_cons, layM_join r, Lib.joinTail, List.map_cons, List.flatten_cons]
    simp
theorem layN_join : ∀ ps : List (List UInt8), byts (layN ps) = Lib.join ps [44, 32]
  | [] => rfl
  | x :: r => by
    rw [Lib.join_cons, ← layM_join]
    simp [layN, byts_cons]
theorem bs_back (ps : List (List UInt8)) : (ps.map bs).map (·.data.toList) = ps := by
  rw [List.map_map]
  conv => rhs; rw [← List.map_id ps]
  apply List.map_congr_left
  intro x _
  rfl
theorem joinP (ps : List (List UInt8)) (A : Option Addr) (n c : Nat) (w : World) (hn : n = ps.length) (hN : n ≤ 4000000) (hx : RowS w A n ps) (hc : n ≤ c) (hlen : (byts (layN ps)).length ≤ 140737488355328) :
    Calls Tryd.prog 41 #[.slice A n c, .string ⟨#[44, 32]⟩] w fun e w' => e = .returned (.string (bs (byts (layN ps)))) ∧ Below w.heap.size w w' := by
  by_cases h0 : n = 0
  · have hp : ps = [] := List.eq_nil_of_length_eq_zero (by omega)
    subst hp
    subst h0
    exact (Tryd.strings_Join_none A c _ w).mono fun e w' ⟨he, hw⟩ => ⟨he, hw ▸ Below.refl _ _⟩
  · obtain ⟨ad, x0, rfl, hx0, hc0⟩ := hx.at_ (i := 0) (by omega)
    rw [show ad.add 0 = ad by simp [Addr.add]] at hc0
    have hsp := spot_none hc0
    have had : ad = ⟨ad.block, ad.off, none⟩ := by cases ad; simp only at hsp; rw [hsp]
    have hlt := World.block_lt_of_cell? w ad hc0
    have q := Tryd.strings_Join ad.block ad.off c (ps.map bs) ⟨#[44, 32]⟩ w (fun j x hj => by
      rw [List.getElem?_map] at hj
      have hjl : j < n := by
        rcases Nat.lt_or_ge j ps.length with h | h
        · omega
        · rw [List.getElem?_eq_none h] at hj; simp at hj
      obtain ⟨ad', y, e1, e2, e3⟩ := hx.at_ (i := j) hjl
      injection e1 with e1
      rw [e2] at hj
      simp only [Option.map_some, Option.some.injEq] at hj
      have : ad.add j = ⟨ad.block, ad.off + j, none⟩ := by
        conv => lhs; rw [had]
        rw [add_at]
      rw [← this, e1, ← hj]
      exact e3) hlt (by rw [List.length_map, ← hn]; omega) (by rw [List.length_map]; omega) (by rw [bs_back]; exact (layN_join ps) ▸ hlen)
    rw [bs_back, List.length_map, ← hn, ← had] at q
    rw [layN_join]
    exact q

set_option maxRecDepth 100000 in
set_option maxHeartbeats 8000000 in
theorem priInput (wd : List UInt8) (sw : ByteArray) (hsw : sw = bs wd) (dv : DV) (hR : inR dv) (b : Nat) (l : List UInt8) (w A W : World) (A1 : Option Addr) (c1 : Nat) (A2 : Option Addr) (c2 : Nat) (hL : LaidP w) (h0 : Wr b l ((0 : Nat) : Int) w A W) (hlen : l.length + (wd ++ rngT dv).length ≤ 140737488355328) :
    Calls Tryd.prog 39 #[.pointer (some ⟨b, 0, none⟩), .string sw, dval dv A1 c1 A2 c2] W fun r W' => r = .returned (.tuple #[]) ∧ Wr b (l ++ (wd ++ rngT dv)) ((0 : Nat) : Int) w A W' := by
  cases dv with
  | mk dk x lo hi sz ps body dl dc =>
  obtain ⟨xs, hxs⟩ : ∃ s, s = bs x := ⟨_, rfl⟩
  have HXs := Lib.hid hxs
  obtain ⟨hA, hb1, hne⟩ := h0.box [.int .i64 dk, .string xs, .int .i64 lo, .int .i64 hi, .int .i64 sz, .slice A1 ps.length c1, .slice A2 body.length c2, .int .i64 dl, .int .i64 dc] 47 (by decide)
  have HA := Lib.hid hA
  have H1 := Lib.hid hA.here
  have HB := Lib.hid hb1
  have q1 := Lib.hid (fun V hL => priSigned lo hR.1.1 hR.1.2 V hL)
  have q2 := Lib.hid (fun V hL => priSigned hi hR.2.1 hR.2.2 V hL)
  unfold rngT at hlen ⊢
  try simp only at hlen ⊢
  obtain ⟨u, hu⟩ : ∃ u, u = Lib.itoa lo := ⟨_, rfl⟩
  obtain ⟨v, hv⟩ : ∃ u, u = Lib.itoa hi := ⟨_, rfl⟩
  rw [← hu, ← hv] at hlen ⊢
  try simp only at q1 q2
  rw [← hu] at q1
  rw [← hv] at q2
  obtain ⟨us, hus⟩ : ∃ s, s = bs u := ⟨_, rfl⟩
  obtain ⟨vs, hvs⟩ : ∃ s, s = bs v := ⟨_, rfl⟩
  have HU := Lib.hid hus
  have HV := Lib.hid hvs
  have HSW := Lib.hid hsw
  rw [← hus] at q1
  rw [← hvs] at q2
  have HW := Lib.hid hL
  have HLen : Hid (l.length + (wd.length + (x.length + (u.length + (v.length + 10)))) ≤ 140737488355328) := by show _ ≤ _; simp only [List.length_append, List.length_cons, List.length_nil] at hlen; omega
  obtain ⟨fin, hfin⟩ : ∃ zz, zz = l ++ (wd ++ (x ++ ([32, 105, 110, 32, 91] ++ (u ++ ([44, 32] ++ (v ++ [93, 59, 10])))))) := ⟨_, rfl⟩
  have he : Hid (l ++ (ahd 0 ++ (cat [wd, x, [32, 105, 110, 32, 91], u, [44, 32], v, [93, 59]] ++ [10])) = fin) := by show _ = _; rw [hfin]; simp [cat, ahd]
  rw [← hfin]
  unfold dval
  simp only
  rw [show (⟨x.toArray⟩ : ByteArray) = bs x from rfl, ← hxs]
  clear hL h0 hlen hA hb1 hR hu hv hus hvs hsw hxs hfin
  generalize ps.length = n1 at *
  generalize body.length = n2 at *
  obtain ⟨z0, hz0⟩ : ∃ z : Int, z = ((0 : Nat) : Int) := ⟨_, rfl⟩
  have HZ := Lib.hid hz0
  clear hz0
  go_enter Tryd.func39, Tryd.ntmps39
  go_wp2_with fail
  have H2 := Lib.hid H1.out.drew
  have B2 := Lib.hid HB.out.drew
  have y0 := And.intro (B2.out.cell (i := 1) rfl) (And.intro (B2.out.cell (i := 2) rfl) ((B2.out.cell (i := 3) rfl)))
  have q9 := Lib.hid (fun l' A V (hr : Wr b l' ((0 : Nat) : Int) w A V) hlen => lineNew (cs := #[.string sw, .string xs, .string ⟨#[32, 105, 110, 32, 91]⟩, .string us, .string ⟨#[44, 32]⟩, .string vs, .string ⟨#[93, 59]⟩]) (n := 7) (g := V.heap.size) hr [wd, x, [32, 105, 110, 32, 91], u, [44, 32], v, [93, 59]] rfl (by rw [HSW.out, HXs.out, HU.out, HV.out]; rfl) rfl hlen (by omega))
  have H9 : Hid (l.length + (2 * 0 + (cat [wd, x, [32, 105, 110, 32, 91], u, [44, 32], v, [93, 59]]).length + 1) ≤ 140737488355328) := by show _ ≤ _; have := HLen.out; simp [cat]; omega
  go_region_held3 (fun w' => w'.cell? ⟨W.heap.size, 1, none⟩ = some (.string xs) ∧ w'.cell? ⟨W.heap.size, 2, none⟩ = some (.int .i64 lo) ∧ w'.cell? ⟨W.heap.size, 3, none⟩ = some (.int .i64 hi)) (first | with_reducible exact y0 | with_reducible exact y1 | with_reducible exact y2 | with_reducible exact y3 | go_keep)
    (first
    | (go_at_call 58
       with_reducible refine (q1.out _ (HW.out.step H2.out.bel)).mono ?_
       rintro e9 V1 ⟨rfl, hb⟩
       have H3 := Lib.hid (H2.out.step hb)
       have B3 := Lib.hid (B2.out.step hb)
       have y1 := And.intro (B3.out.cell (i := 1) rfl) (And.intro (B3.out.cell (i := 2) rfl) ((B3.out.cell (i := 3) rfl)))
       clear hb)
    | (go_at_call 58
       with_reducible refine (q2.out _ (HW.out.step H3.out.bel)).mono ?_
       rintro e9 V2 ⟨rfl, hb⟩
       have H4 := Lib.hid (H3.out.step hb)
       have B4 := Lib.hid (B3.out.step hb)
       have y2 := And.intro (B4.out.cell (i := 1) rfl) (And.intro (B4.out.cell (i := 2) rfl) ((B4.out.cell (i := 3) rfl)))
       clear hb)
    | (with_reducible refine (q9.out _ _ _ H4.out H9.out).mono ?_
       rintro e9 V3 ⟨rfl, hw⟩
       have H5 := Lib.hid hw
       have y3 := And.intro ((hw.bk HB.out hne).cell (i := 1) rfl) (And.intro ((hw.bk HB.out hne).cell (i := 2) rfl) (((hw.bk HB.out hne).cell (i := 3) rfl)))
       clear hw))
  have HF := Lib.hid (HA.out.trans H5.out)
  rw [he.out] at HF
  clear H2 H3 H4 H5 y0 y1 y2 y3 B2 B3 B4
  go_wp2_with fail
  go_end0
  exact ⟨rfl, HF.out⟩

set_option maxRecDepth 100000 in
set_option maxHeartbeats 8000000 in
theorem priDecl (dv : DV) (h : rgd1 dv = true) (hin : inD dv = true) (hR : inR dv) (hbz : 1 + ssz dv.body ≤ 4000000) (hpn : dv.ps.length ≤ 4000000) (b : Nat) (l : List UInt8) (w A W : World) (A1 : Option Addr) (c1 : Nat) (A2 : Option Addr) (c2 : Nat) (hL : LaidP w) (hps : RowS w A1 dv.ps.length dv.ps) (hcap : dv.ps.length ≤ c1) (hbd : SR w A2 dv.body) (h0 : Wr b l ((0 : Nat) : Int) w A W) (hlen : l.length + (lineD dv).length ≤ 140737488355328) :
    Calls Tryd.prog 21 #[.pointer (some ⟨b, 0, none⟩), dval dv A1 c1 A2 c2] W fun r W' => r = .returned (.tuple #[]) ∧ Wr b (l ++ lineD dv) ((0 : Nat) : Int) w A W' := by
  obtain ⟨a1, a2, a3, a4, a5, -⟩ := rgd_kind h
  have hi2 := hin
  unfold inD at hi2
  rw [Bool.and_eq_true] at hi2
  have hsz := of_decide_eq_true hi2.1
  have hnum := of_decide_eq_true (show decide _ = true from a3)
  rcases a1 with k | k | k | k | k
  · have hIn := Lib.hid (fun (sw : ByteArray) hs l A W' (hr : Wr b l ((0 : Nat) : Int) w A W') hl => priInput [112, 117, 98, 108, 105, 99, 32] sw hs dv hR b l w A W' A1 c1 A2 c2 hL hr hl)
    rw [lineD_0 dv k] at hlen ⊢
    have HLen := Lib.hid hlen
    obtain ⟨fin, hfin⟩ : ∃ zz, zz = l ++ ([112, 117, 98, 108, 105, 99, 32] ++ rngT dv) := ⟨_, rfl⟩
    have he := Lib.hid hfin.symm
    rw [← hfin]
    have hb := h0.box [.int .i64 dv.k, .string ⟨dv.x.toArray⟩, .int .i64 dv.lo, .int .i64 dv.hi, .int .i64 dv.sz, .slice A1 dv.ps.length c1, .slice A2 dv.body.length c2, .int .i64 dv.l, .int .i64 dv.c] 47 (by decide)
    obtain ⟨hA, hb1, hne⟩ := hb
    have s0 := hb1.box.nine
    have HA := Lib.hid hA
    unfold dval at *
    rw [k] at *
    clear hL hps hcap hbd h0 hlen hA hb1 hne h hin hR hbz hpn a2 a3 a4 a5 hi2 hsz hnum hfin k
    generalize (⟨dv.x.toArray⟩ : ByteArray) = xs at *
    generalize dv.lo = lo at *
    generalize dv.hi = hi at *
    generalize dv.sz = sz at *
    generalize dv.ps.length = n1 at *
    generalize dv.body.length = n2 at *
    generalize dv.l = dl at *
    generalize dv.c = dc at *
    go_enter Tryd.func21, Tryd.ntmps21
    go_wp2_with fail
    refine (hIn.out ⟨#[112, 117, 98, 108, 105, 99, 32]⟩ rfl _ _ _ HA.out HLen.out).mono ?_
    rintro e W2 ⟨rfl, hw⟩
    rw [he.out] at hw
    have H2 := Lib.hid hw
    clear hw s0
    go_wp2_with fail
    go_end0
    exact ⟨rfl, H2.out⟩
  · have hIn := Lib.hid (fun (sw : ByteArray) hs l A W' (hr : Wr b l ((0 : Nat) : Int) w A W') hl => priInput [115, 101, 99, 114, 101, 116, 32] sw hs dv hR b l w A W' A1 c1 A2 c2 hL hr hl)
    rw [lineD_1 dv k] at hlen ⊢
    have HLen := Lib.hid hlen
    obtain ⟨fin, hfin⟩ : ∃ zz, zz = l ++ ([115, 101, 99, 114, 101, 116, 32] ++ rngT dv) := ⟨_, rfl⟩
    have he := Lib.hid hfin.symm
    rw [← hfin]
    have hb := h0.box [.int .i64 dv.k, .string ⟨dv.x.toArray⟩, .int .i64 dv.lo, .int .i64 dv.hi, .int .i64 dv.sz, .slice A1 dv.ps.length c1, .slice A2 dv.body.length c2, .int .i64 dv.l, .int .i64 dv.c] 47 (by decide)
    obtain ⟨hA, hb1, hne⟩ := hb
    have s0 := hb1.box.nine
    have HA := Lib.hid hA
    unfold dval at *
    rw [k] at *
    clear hL hps hcap hbd h0 hlen hA hb1 hne h hin hR hbz hpn a2 a3 a4 a5 hi2 hsz hnum hfin k
    generalize (⟨dv.x.toArray⟩ : ByteArray) = xs at *
    generalize dv.lo = lo at *
    generalize dv.hi = hi at *
    generalize dv.sz = sz at *
    generalize dv.ps.length = n1 at *
    generalize dv.body.length = n2 at *
    generalize dv.l = dl at *
    generalize dv.c = dc at *
    go_enter Tryd.func21, Tryd.ntmps21
    go_wp2_with fail
    refine (hIn.out ⟨#[115, 101, 99, 114, 101, 116, 32]⟩ rfl _ _ _ HA.out HLen.out).mono ?_
    rintro e W2 ⟨rfl, hw⟩
    rw [he.out] at hw
    have H2 := Lib.hid hw
    clear hw s0
    go_wp2_with fail
    go_end0
    exact ⟨rfl, H2.out⟩
  · rw [lineD_2 dv k] at hlen ⊢
    cases dv with
    | mk dk x lo hi sz ps body dl dc =>
    simp only at *
    subst k
    obtain ⟨xs, hxs⟩ : ∃ s, s = bs x := ⟨_, rfl⟩
    have HXs := Lib.hid hxs
    obtain ⟨hA, hb1, hne⟩ := h0.box [.int .i64 2, .string xs, .int .i64 lo, .int .i64 hi, .int .i64 sz, .slice A1 ps.length c1, .slice A2 body.length c2, .int .i64 dl, .int .i64 dc] 47 (by decide)
    have s0 := hb1.box.nine
    have HA := Lib.hid hA
    have H1 := Lib.hid hA.here
    have HB := Lib.hid hb1
    have HW := Lib.hid hL
    have HLen : Hid (l.length + (x.length + 6) ≤ 140737488355328) := by show _ ≤ _; simp only [List.length_append, List.length_cons, List.length_nil] at hlen; omega
    obtain ⟨fin, hfin⟩ : ∃ zz, zz = l ++ ([118, 97, 114, 32] ++ (x ++ [59, 10])) := ⟨_, rfl⟩
    have he : Hid (l ++ (ahd 0 ++ (cat [[118, 97, 114, 32], x, [59]] ++ [10])) = fin) := by show _ = _; rw [hfin]; simp [cat, ahd]
    rw [← hfin]
    unfold dval
    simp only
    rw [show (⟨x.toArray⟩ : ByteArray) = bs x from rfl, ← hxs]
    clear hL hps hcap hbd h0 hlen hA hb1 h hin hR hbz hpn a2 a3 a4 a5 hi2 hsz hnum hfin hxs
    generalize ps.length = n1 at *
    generalize body.length = n2 at *
    go_enter Tryd.func21, Tryd.ntmps21
    go_wp2_with fail
    refine (lineNew (cs := #[.string ⟨#[118, 97, 114, 32]⟩, .string xs, .string ⟨#[59]⟩]) (n := 3) H1.out [[118, 97, 114, 32], x, [59]] rfl (by rw [HXs.out]; rfl) (by simp) (by have := HLen.out; simp [cat]; omega) (by omega)).mono ?_
    rintro e W2 ⟨rfl, hw⟩
    rw [he.out] at hw
    have H2 := Lib.hid (HA.out.trans hw)
    clear hw s0
    go_wp2_with fail
    go_end0
    exact ⟨rfl, H2.out⟩
  · rw [lineD_3 dv k] at hlen ⊢
    cases dv with
    | mk dk x lo hi sz ps body dl dc =>
    simp only at *
    subst k
    obtain ⟨xs, hxs⟩ : ∃ s, s = bs x := ⟨_, rfl⟩
    have HXs := Lib.hid hxs
    obtain ⟨hA, hb1, hne⟩ := h0.box [.int .i64 3, .string xs, .int .i64 lo, .int .i64 hi, .int .i64 sz, .slice A1 ps.length c1, .slice A2 body.length c2, .int .i64 dl, .int .i64 dc] 47 (by decide)
    have s0 := hb1.box.nine
    have HA := Lib.hid hA
    have H1 := Lib.hid hA.here
    have HB := Lib.hid hb1
    have HW := Lib.hid hL
    have q1 := Lib.hid (fun V hL => priNumber sz (by omega) hsz V hL)
    obtain ⟨u, hu⟩ : ∃ u, u = numT sz := ⟨_, rfl⟩
    rw [← hu] at hlen q1 ⊢
    obtain ⟨us, hus⟩ : ∃ s, s = bs u := ⟨_, rfl⟩
    have HU := Lib.hid hus
    rw [← hus] at q1
    have HLen : Hid (l.length + (x.length + (u.length + 10)) ≤ 140737488355328) := by show _ ≤ _; simp only [List.length_append, List.length_cons, List.length_nil] at hlen; omega
    obtain ⟨fin, hfin⟩ : ∃ zz, zz = l ++ ([97, 114, 114, 97, 121, 32] ++ (x ++ ([91] ++ (u ++ [93, 59, 10])))) := ⟨_, rfl⟩
    have he : Hid (l ++ (ahd 0 ++ (cat [[97, 114, 114, 97, 121, 32], x, [91], u, [93, 59]] ++ [10])) = fin) := by show _ = _; rw [hfin]; simp [cat, ahd]
    rw [← hfin]
    unfold dval
    simp only
    rw [show (⟨x.toArray⟩ : ByteArray) = bs x from rfl, ← hxs]
    clear hL hps hcap hbd h0 hlen hA hb1 h hin hR hbz hpn a2 a3 a4 a5 hi2 hsz hnum hfin hxs hu hus
    generalize ps.length = n1 at *
    generalize body.length = n2 at *
    go_enter Tryd.func21, Tryd.ntmps21
    go_wp2_with fail
    have H2 := Lib.hid H1.out.drew
    have B2 := Lib.hid HB.out.drew
    have y0 := And.intro (B2.out.cell (i := 1) rfl) ((B2.out.cell (i := 4) rfl))
    have q9 := Lib.hid (fun l' A V (hr : Wr b l' ((0 : Nat) : Int) w A V) hlen => lineNew (cs := #[.string ⟨#[97, 114, 114, 97, 121, 32]⟩, .string xs, .string ⟨#[91]⟩, .string us, .string ⟨#[93, 59]⟩]) (n := 5) (g := V.heap.size) hr [[97, 114, 114, 97, 121, 32], x, [91], u, [93, 59]] rfl (by rw [HXs.out, HU.out]; rfl) rfl hlen (by omega))
    have H9 : Hid (l.length + (2 * 0 + (cat [[97, 114, 114, 97, 121, 32], x, [91], u, [93, 59]]).length + 1) ≤ 140737488355328) := by show _ ≤ _; have := HLen.out; simp [cat]; omega
    clear s0
    go_region_held3 (fun w' => w'.cell? ⟨W.heap.size, 1, none⟩ = some (.string xs) ∧ w'.cell? ⟨W.heap.size, 4, none⟩ = some (.int .i64 sz)) (first | with_reducible exact y0 | with_reducible exact y1 | with_reducible exact y2 | go_keep)
      (first
      | (go_at_call 40
         with_reducible refine (q1.out _ (HW.out.step H2.out.bel)).mono ?_
         rintro e9 V1 ⟨rfl, hb⟩
         have H3 := Lib.hid (H2.out.step hb)
         have B3 := Lib.hid (B2.out.step hb)
         have y1 := And.intro (B3.out.cell (i := 1) rfl) ((B3.out.cell (i := 4) rfl))
         clear hb)
      | (with_reducible refine (q9.out _ _ _ H3.out H9.out).mono ?_
         rintro e9 V3 ⟨rfl, hw⟩
         have H5 := Lib.hid hw
         have y2 := And.intro ((hw.bk HB.out hne).cell (i := 1) rfl) (((hw.bk HB.out hne).cell (i := 4) rfl))
         clear hw))
    have HF := Lib.hid (HA.out.trans H5.out)
    rw [he.out] at HF
    clear H2 H3 H5 y0 y1 y2 B2 B3
    go_wp2_with fail
    go_end0
    exact ⟨rfl, HF.out⟩
  · rw [lineD_4 dv k a5] at hlen ⊢
    cases dv with
    | mk dk x lo hi sz ps body dl dc =>
    simp only at *
    subst k
    obtain ⟨xs, hxs⟩ : ∃ s, s = bs x := ⟨_, rfl⟩
    have HXs := Lib.hid hxs
    obtain ⟨hA, hb1, hne⟩ := h0.box [.int .i64 4, .string xs, .int .i64 lo, .int .i64 hi, .int .i64 sz, .slice A1 ps.length c1, .slice A2 body.length c2, .int .i64 dl, .int .i64 dc] 47 (by decide)
    have s0 := hb1.box.nine
    have HA := Lib.hid hA
    have H1 := Lib.hid hA.here
    have HB := Lib.hid hb1
    have HW := Lib.hid hL
    have q1 := Lib.hid (fun V (hb : Below w.heap.size w V) => joinP ps A1 ps.length c1 V rfl hpn (hps.sub (Sub.below hb)) hcap (by simp only [List.length_append] at hlen; omega))
    have hB := Lib.hid (fun l A W' (hr : Wr b l ((0 : Nat) : Int) w A W') hl => priBlock body (priStmts (ssz body) body (Nat.le_refl _) a5 hi2.2) b l 0 w A W' A2 c2 hL hbd hr (by omega) hl)
    obtain ⟨u, hu⟩ : ∃ u, u = byts (layN ps) := ⟨_, rfl⟩
    obtain ⟨tb, htb⟩ : ∃ u, u = linesB body (0 + 1) := ⟨_, rfl⟩
    rw [show (1 : Nat) = 0 + 1 from rfl] at hlen ⊢
    rw [← hu, ← htb] at hlen ⊢
    rw [← hu] at q1
    rw [← htb] at hB
    obtain ⟨us, hus⟩ : ∃ s, s = bs u := ⟨_, rfl⟩
    have HU := Lib.hid hus
    rw [← hus] at q1
    have HLen : Hid (l.length + (x.length + (u.length + (tb.length + 12))) ≤ 140737488355328) := by show _ ≤ _; simp only [List.length_append, List.length_cons, List.length_nil] at hlen; omega
    obtain ⟨fin, hfin⟩ : ∃ zz, zz = l ++ ([112, 114, 111, 99, 32] ++ (x ++ ([40] ++ (u ++ ([41, 32, 123, 10] ++ (tb ++ [125, 10])))))) := ⟨_, rfl⟩
    have he : Hid (l ++ (ahd 0 ++ (cat [[112, 114, 111, 99, 32], x, [40], u, [41, 32, 123]] ++ [10])) ++ tb ++ (ahd 0 ++ (cat [[125]] ++ [10])) = fin) := by show _ = _; rw [hfin]; simp [cat, ahd]
    rw [← hfin]
    unfold dval
    simp only
    rw [show (⟨x.toArray⟩ : ByteArray) = bs x from rfl, ← hxs]
    clear hL hps hcap hbd h0 hlen hA hb1 h hin hR hbz hpn a2 a3 a4 a5 hi2 hsz hnum hfin hxs hu hus htb
    generalize ps.length = n1 at *
    generalize body.length = n2 at *
    go_enter Tryd.func21, Tryd.ntmps21
    go_wp2_with fail
    have H2 := Lib.hid H1.out.drew
    have B2 := Lib.hid HB.out.drew
    have y0 := And.intro (B2.out.cell (i := 1) rfl) ((B2.out.cell (i := 5) rfl))
    have q9 := Lib.hid (fun l' A V (hr : Wr b l' ((0 : Nat) : Int) w A V) hlen => lineNew (cs := #[.string ⟨#[112, 114, 111, 99, 32]⟩, .string xs, .string ⟨#[40]⟩, .string us, .string ⟨#[41, 32, 123]⟩]) (n := 5) (g := V.heap.size) hr [[112, 114, 111, 99, 32], x, [40], u, [41, 32, 123]] rfl (by rw [HXs.out, HU.out]; rfl) rfl hlen (by omega))
    have H9 : Hid (l.length + (2 * 0 + (cat [[112, 114, 111, 99, 32], x, [40], u, [41, 32, 123]]).length + 1) ≤ 140737488355328) := by show _ ≤ _; have := HLen.out; simp [cat]; omega
    clear s0
    go_region_held3 (fun w' => w'.cell? ⟨W.heap.size, 1, none⟩ = some (.string xs) ∧ w'.cell? ⟨W.heap.size, 5, none⟩ = some (.slice A1 n1 c1)) (first | with_reducible exact y0 | with_reducible exact y1 | with_reducible exact y2 | go_keep)
      (first
      | (go_at_call 41
         with_reducible refine (q1.out _ H2.out.bel).mono ?_
         rintro e9 V1 ⟨rfl, hb⟩
         have H3 := Lib.hid (H2.out.step hb)
         have B3 := Lib.hid (B2.out.step hb)
         have y1 := And.intro (B3.out.cell (i := 1) rfl) ((B3.out.cell (i := 5) rfl))
         clear hb)
      | (with_reducible refine (q9.out _ _ _ H3.out H9.out).mono ?_
         rintro e9 V3 ⟨rfl, hw⟩
         have H5 := Lib.hid hw
         have y2 := And.intro ((hw.bk HB.out hne).cell (i := 1) rfl) (((hw.bk HB.out hne).cell (i := 5) rfl))
         clear hw))
    have s5 := (H5.out.bk HB.out hne).box.nine
    clear y0 y1 y2 B2 B3 H2 H3
    go_wp2_with fail
    refine (hB.out _ _ _ H5.out (by have := HLen.out; simp [cat, ahd]; omega)).mono ?_
    rintro e W6 ⟨rfl, hw⟩
    have H6 := Lib.hid hw
    clear hw s5
    go_wp2_with fail
    refine (lineNew (cs := #[.string ⟨#[125]⟩]) (n := 1) H6.out [[125]] rfl rfl (by simp) (by have := HLen.out; simp [cat, ahd]; omega) (by omega)).mono ?_
    rintro e W7 ⟨rfl, hw⟩
    rw [he.out] at hw
    have H7 := Lib.hid (HA.out.trans hw)
    clear hw
    go_wp2_with fail
    go_end0
    exact ⟨rfl, H7.out⟩
end

section
open Go.RowKit

theorem rowX1 {W : World} {g : Nat} {t : TypeId} {fr : Nat × Nat} {k n o l cc : Int} {x : List UInt8} {gs : List XV} {A : Option Addr} {c : Nat} (hg : W.heap[g]? = some (.cells #[.int .i64 k, .int .i64 n, .string ⟨x.toArray⟩, .int .i64 o, .slice A gs.length c, .int .i64 l, .int .i64 cc] t fr)) (hx : XR W A gs) : XR W (some ⟨g, 0, none⟩) [.mk k n x o gs l cc] :=
  XR.of_block (vs := [.int .i64 k, .int .i64 n, .string ⟨x.toArray⟩, .int .i64 o, .slice A gs.length c, .int .i64 l, .int .i64 cc]) hg ⟨_, [], rfl, ⟨A, c, rfl, fun h => hx h⟩, rfl⟩
theorem rowS1 {W : World} {g g1 : Nat} {t : TypeId} {fr : Nat × Nat} {e : XV} (hg : W.heap[g]? = some (.cells #[.int .i64 4, .string ⟨#[]⟩, .slice (some ⟨g1, 0, none⟩) 1 1, .slice none 0 0, .slice none 0 0, .int .i64 0, .int .i64 0] t fr)) (hx : XR W (some ⟨g1, 0, none⟩) [e]) : SR W (some ⟨g, 0, none⟩) [.mk 4 [] [e] [] [] 0 0] :=
  SR.of_block (vs := [.int .i64 4, .string ⟨#[]⟩, .slice (some ⟨g1, 0, none⟩) 1 1, .slice none 0 0, .slice none 0 0, .int .i64 0, .int .i64 0]) hg ⟨_, [], rfl, ⟨some ⟨g1, 0, none⟩, 1, none, 0, none, 0, rfl, hx, fun h => absurd rfl h, fun h => absurd rfl h⟩, rfl⟩
theorem small_lines {l : List SV} (hr : ∀ s ∈ l, RS s) (hi : inSs l = true) (d : Nat) (hd : d + ssz l ≤ 1100001) : (linesB l d).length ≤ 9700000000000 := by
  have h1 := linesB_len 1100001 (ssz l) l (Nat.le_refl _) hr hi d hd
  have h2 : (200 + 8 * 1100001) * ssz l ≤ (200 + 8 * 1100001) * 1100001 := Nat.mul_le_mul_left _ (by omega)
  omega
/-- A printer that is made, in a world behind w. -/
theorem Wr.made {w W : World} (hb : Below w.heap.size w W) : Wr W.heap.size [] ((0 : Nat) : Int) w (W.alloc (.cells #[.pointer none, .slice none 0 0, .int .i64 0] 63)) (W.alloc (.cells #[.pointer none, .slice none 0 0, .int .i64 0] 63)) :=
  Wr.start (Pr.new W _ hb.size) (bth5 hb (bnew5 _ _))

set_option maxRecDepth 100000 in
set_option maxHeartbeats 4000000 in
theorem priPStmts (ls : List SV) (hs : sbk ls ≤ 1100000) (hin : inSs ls = true) (A : Option Addr) (c : Nat) (w : World) (hL : LaidP w) (hx : SR w A ls) :
    Calls Tryd.prog 16 #[.slice A ls.length c] w fun r w' => r = .returned (.string (bs (textSt ls))) ∧ Below w.heap.size w w' := by
  have hR := astRight6 [] ls (by simp only [dbk]; omega) none 0 A c w hL.ast (DR.nil _ _) hx
  have hzb := ssz_bk ls
  rw [show (rgd [] && rgs ls) = rgs ls from rfl] at hR
  unfold pval at hR
  simp only [List.length_nil] at hR
  unfold textSt
  cases hr : rgs ls with
  | false =>
    rw [hr] at hR
    rw [if_neg (by simp), show bs [] = ⟨#[]⟩ from rfl]
    generalize ls.length = n at *
    clear hx hL hr
    go_enter Tryd.func16, Tryd.ntmps16
    go_wp2_with fail
    refine hR.mono ?_
    rintro e w1 ⟨rfl, hb⟩
    go_wp2_with fail
    go_ret
    exact ⟨rfl, hb⟩
  | true =>
    have hrs := rs_all ls hr
    have hll := small_lines hrs hin 0 (by omega)
    have hT := Lib.hid (fun b l W' (hw : Wr b l ((0 : Nat) : Int) w W' W') hl => priStmts (ssz ls) ls (Nat.le_refl _) hrs hin b l 0 w W' W' A c hL hx hw (by omega) hl)
    rw [hr] at hR
    rw [if_pos rfl]
    obtain ⟨t, ht⟩ : ∃ t, t = linesB ls 0 := ⟨_, rfl⟩
    rw [← ht] at hT hll ⊢
    generalize ls.length = n at *
    clear hx hL hr hrs hzb hs hin ht
    go_enter Tryd.func16, Tryd.ntmps16
    go_wp2_with fail
    refine hR.mono ?_
    rintro e w1 ⟨rfl, hb⟩
    have H1 := Lib.hid (Wr.made hb)
    have B1 := Lib.hid hb
    clear hb hR
    go_wp2_with fail
    refine (hT.out _ _ _ H1.out (by simp; omega)).mono ?_
    rintro e w2 ⟨rfl, hw⟩
    have H2 := Lib.hid hw
    clear hw
    go_wp2_with fail
    refine (stringP H2.out.pr).mono ?_
    rintro e w3 ⟨rfl, hb⟩
    have B3 := Lib.hid (H2.out.bel.trans hb)
    clear hb
    rw [List.nil_append]
    go_wp2_with fail
    go_ret
    exact ⟨rfl, B3.out⟩

set_option maxRecDepth 100000 in
set_option maxHeartbeats 4000000 in
theorem priPExpr (e : XV) (hs : xbk1 e ≤ 1100000) (hin : inX e = true) (A : Option Addr) (c : Nat) (w : World) (hL : LaidP w) (hx : XR w A e.gs) :
    Calls Tryd.prog 9 #[xval e A c] w fun r w' => r = .returned (.string (bs (textE e))) ∧ Below w.heap.size w w' := by
  have hR := Lib.hid (fun B d V hL hy => astRight6 [] [.mk 4 [] [e] [] [] 0 0] (by simp only [sbk, sbk1, xbk, dbk, List.length_nil]; omega) none 0 B d V hL (DR.nil _ _) hy)
  rw [show (rgd [] && rgs [.mk 4 [] [e] [] [] 0 0]) = rgx1 e by rw [← out_right]; rfl] at hR
  have hz := xsz1_bk e
  have hT := fun (h : rgx1 e = true) => Lib.hid (fun b l W' (hw : Wr b l ((0 : Nat) : Int) w W' W') hl => priExpr e (rx_of e h) (in_of e hin) b l ((0 : Nat) : Int) w W' W' A c hL hx hw hl)
  have hlen := fun (h : rgx1 e = true) => textX_len e (rx_of e h) (in_of e hin)
  have HLx := Lib.hid hL
  have HX := Lib.hid (fun (V : World) (hb : Below w.heap.size w V) => hx.sub (Sub.below hb))
  unfold textE
  cases e with
  | mk k n x o gs l cc =>
  have hrow := Lib.hid (fun (V : World) (g1 g2 : Nat) (t t' : TypeId) (hb : Below w.heap.size w V) (h1 : V.heap[g1]? = some (Obj.cells #[.int .i64 k, .int .i64 n, .string ⟨x.toArray⟩, .int .i64 o, .slice A gs.length c, .int .i64 l, .int .i64 cc] t (0, 0))) (h2 : V.heap[g2]? = some (Obj.cells #[.int .i64 4, .string ⟨#[]⟩, .slice (some ⟨g1, 0, none⟩) 1 1, .slice none 0 0, .slice none 0 0, .int .i64 0, .int .i64 0] t' (0, 0))) => rowS1 h2 (rowX1 h1 (HX.out V hb)))
  unfold xval at *
  unfold pval at hR
  simp only [XV.k, XV.n, XV.x, XV.o, XV.gs, XV.l, XV.c, List.length_cons, List.length_nil, Nat.zero_add] at *
  obtain ⟨xs, hxs⟩ : ∃ s, s = bs x := ⟨_, rfl⟩
  rw [show (⟨x.toArray⟩ : ByteArray) = bs x from rfl, ← hxs] at hT hrow ⊢
  clear hx hL HX
  obtain ⟨m, hm⟩ : ∃ m, m = gs.length := ⟨_, rfl⟩
  rw [← hm] at hT hrow ⊢
  have z1 : (w.alloc (.cells #[.int .i64 k, .int .i64 n, .string xs, .int .i64 o, .slice A m c, .int .i64 l, .int .i64 cc] 32)).heap.size = w.heap.size + 1 := by simp
  have z2 : ((w.alloc (.cells #[.int .i64 k, .int .i64 n, .string xs, .int .i64 o, .slice A m c, .int .i64 l, .int .i64 cc] 32)).alloc (.cells #[.int .i64 k, .int .i64 n, .string xs, .int .i64 o, .slice A m c, .int .i64 l, .int .i64 cc] 32)).heap.size = w.heap.size + 1 + 1 := by simp
  have z3 : (((w.alloc (.cells #[.int .i64 k, .int .i64 n, .string xs, .int .i64 o, .slice A m c, .int .i64 l, .int .i64 cc] 32)).alloc (.cells #[.int .i64 k, .int .i64 n, .string xs, .int .i64 o, .slice A m c, .int .i64 l, .int .i64 cc] 32)).alloc (.cells #[.int .i64 4, .string ⟨#[]⟩, .slice (some ⟨w.heap.size + 1, 0, none⟩) 1 1, .slice none 0 0, .slice none 0 0, .int .i64 0, .int .i64 0] 37)).heap.size = w.heap.size + 1 + 1 + 1 := by simp
  have b1 : Below w.heap.size w (w.alloc (.cells #[.int .i64 k, .int .i64 n, .string xs, .int .i64 o, .slice A m c, .int .i64 l, .int .i64 cc] 32)) := bnew5 _ _
  have b2 : Below w.heap.size w ((w.alloc (.cells #[.int .i64 k, .int .i64 n, .string xs, .int .i64 o, .slice A m c, .int .i64 l, .int .i64 cc] 32)).alloc (.cells #[.int .i64 k, .int .i64 n, .string xs, .int .i64 o, .slice A m c, .int .i64 l, .int .i64 cc] 32)) := bth5 b1 (bnew5 _ _)
  have b3 : Below w.heap.size w (((w.alloc (.cells #[.int .i64 k, .int .i64 n, .string xs, .int .i64 o, .slice A m c, .int .i64 l, .int .i64 cc] 32)).alloc (.cells #[.int .i64 k, .int .i64 n, .string xs, .int .i64 o, .slice A m c, .int .i64 l, .int .i64 cc] 32)).alloc (.cells #[.int .i64 4, .string ⟨#[]⟩, .slice (some ⟨w.heap.size + 1, 0, none⟩) 1 1, .slice none 0 0, .slice none 0 0, .int .i64 0, .int .i64 0] 37)) := bth5 b2 (bnew5 _ _)
  have b4 : Below w.heap.size w ((((w.alloc (.cells #[.int .i64 k, .int .i64 n, .string xs, .int .i64 o, .slice A m c, .int .i64 l, .int .i64 cc] 32)).alloc (.cells #[.int .i64 k, .int .i64 n, .string xs, .int .i64 o, .slice A m c, .int .i64 l, .int .i64 cc] 32)).alloc (.cells #[.int .i64 4, .string ⟨#[]⟩, .slice (some ⟨w.heap.size + 1, 0, none⟩) 1 1, .slice none 0 0, .slice none 0 0, .int .i64 0, .int .i64 0] 37)).alloc (.cells #[.int .i64 4, .string ⟨#[]⟩, .slice (some ⟨w.heap.size + 1, 0, none⟩) 1 1, .slice none 0 0, .slice none 0 0, .int .i64 0, .int .i64 0] 37)) := bth5 b3 (bnew5 _ _)
  have p1 : ((w.alloc (.cells #[.int .i64 k, .int .i64 n, .string xs, .int .i64 o, .slice A m c, .int .i64 l, .int .i64 cc] 32)).alloc (.cells #[.int .i64 k, .int .i64 n, .string xs, .int .i64 o, .slice A m c, .int .i64 l, .int .i64 cc] 32)).heap[w.heap.size + 1]? = some (.cells #[.int .i64 k, .int .i64 n, .string xs, .int .i64 o, .slice A m c, .int .i64 l, .int .i64 cc] 32) := by have := heap_alloc_new (w.alloc (.cells #[.int .i64 k, .int .i64 n, .string xs, .int .i64 o, .slice A m c, .int .i64 l, .int .i64 cc] 32)) (.cells #[.int .i64 k, .int .i64 n, .string xs, .int .i64 o, .slice A m c, .int .i64 l, .int .i64 cc] 32); rwa [z1] at this
  have p3 : ((((w.alloc (.cells #[.int .i64 k, .int .i64 n, .string xs, .int .i64 o, .slice A m c, .int .i64 l, .int .i64 cc] 32)).alloc (.cells #[.int .i64 k, .int .i64 n, .string xs, .int .i64 o, .slice A m c, .int .i64 l, .int .i64 cc] 32)).alloc (.cells #[.int .i64 4, .string ⟨#[]⟩, .slice (some ⟨w.heap.size + 1, 0, none⟩) 1 1, .slice none 0 0, .slice none 0 0, .int .i64 0, .int .i64 0] 37)).alloc (.cells #[.int .i64 4, .string ⟨#[]⟩, .slice (some ⟨w.heap.size + 1, 0, none⟩) 1 1, .slice none 0 0, .slice none 0 0, .int .i64 0, .int .i64 0] 37)).heap[w.heap.size + 1]? = some (.cells #[.int .i64 k, .int .i64 n, .string xs, .int .i64 o, .slice A m c, .int .i64 l, .int .i64 cc] 32) := by rw [Below.heap_alloc _ _ _ (by rw [z3]; omega), Below.heap_alloc _ _ _ (by rw [z2]; omega)]; exact p1
  have p4 : ((((w.alloc (.cells #[.int .i64 k, .int .i64 n, .string xs, .int .i64 o, .slice A m c, .int .i64 l, .int .i64 cc] 32)).alloc (.cells #[.int .i64 k, .int .i64 n, .string xs, .int .i64 o, .slice A m c, .int .i64 l, .int .i64 cc] 32)).alloc (.cells #[.int .i64 4, .string ⟨#[]⟩, .slice (some ⟨w.heap.size + 1, 0, none⟩) 1 1, .slice none 0 0, .slice none 0 0, .int .i64 0, .int .i64 0] 37)).alloc (.cells #[.int .i64 4, .string ⟨#[]⟩, .slice (some ⟨w.heap.size + 1, 0, none⟩) 1 1, .slice none 0 0, .slice none 0 0, .int .i64 0, .int .i64 0] 37)).heap[w.heap.size + 1 + 1 + 1]? = some (.cells #[.int .i64 4, .string ⟨#[]⟩, .slice (some ⟨w.heap.size + 1, 0, none⟩) 1 1, .slice none 0 0, .slice none 0 0, .int .i64 0, .int .i64 0] 37) := by have := heap_alloc_new (((w.alloc (.cells #[.int .i64 k, .int .i64 n, .string xs, .int .i64 o, .slice A m c, .int .i64 l, .int .i64 cc] 32)).alloc (.cells #[.int .i64 k, .int .i64 n, .string xs, .int .i64 o, .slice A m c, .int .i64 l, .int .i64 cc] 32)).alloc (.cells #[.int .i64 4, .string ⟨#[]⟩, .slice (some ⟨w.heap.size + 1, 0, none⟩) 1 1, .slice none 0 0, .slice none 0 0, .int .i64 0, .int .i64 0] 37)) (.cells #[.int .i64 4, .string ⟨#[]⟩, .slice (some ⟨w.heap.size + 1, 0, none⟩) 1 1, .slice none 0 0, .slice none 0 0, .int .i64 0, .int .i64 0] 37); rwa [z3] at this
  have k1 := (((Bk.new w [.int .i64 k, .int .i64 n, .string xs, .int .i64 o, .slice A m c, .int .i64 l, .int .i64 cc] 32 (by decide)).alloc (.cells #[.int .i64 k, .int .i64 n, .string xs, .int .i64 o, .slice A m c, .int .i64 l, .int .i64 cc] 32)).alloc (.cells #[.int .i64 4, .string ⟨#[]⟩, .slice (some ⟨w.heap.size + 1, 0, none⟩) 1 1, .slice none 0 0, .slice none 0 0, .int .i64 0, .int .i64 0] 37)).alloc (.cells #[.int .i64 4, .string ⟨#[]⟩, .slice (some ⟨w.heap.size + 1, 0, none⟩) 1 1, .slice none 0 0, .slice none 0 0, .int .i64 0, .int .i64 0] 37)
  have hq := hR.out _ 1 _ (HLx.out.ast.step b4) (hrow.out _ _ _ _ _ b4 p3 p4)
  have B4 := Lib.hid b4
  have K1 := Lib.hid k1
  have s0 := (Bk.new w [.int .i64 k, .int .i64 n, .string xs, .int .i64 o, .slice A m c, .int .i64 l, .int .i64 cc] 32 (by decide)).box.seven
  clear hR hrow z1 z2 z3 b1 b2 b3 b4 p1 p3 p4 k1 hxs hm
  cases hr : rgx1 (.mk k n x o gs l cc) with
  | false =>
    rw [hr] at hq
    rw [if_neg (by simp), show bs [] = ⟨#[]⟩ from rfl]
    clear hr hT hlen hs hz
    go_enter Tryd.func9, Tryd.ntmps9
    go_wp2_with fail
    refine hq.mono ?_
    rintro e w1 ⟨rfl, hb⟩
    have B5 := Lib.hid (bth5 B4.out hb)
    clear hb hq s0
    go_wp2_with fail
    go_ret
    exact ⟨rfl, B5.out⟩
  | true =>
    have hT2 := hT hr
    have hl2 := hlen hr
    rw [hr] at hq
    rw [if_pos rfl]
    obtain ⟨t, ht⟩ : ∃ t, t = textX (.mk k n x o gs l cc) := ⟨_, rfl⟩
    rw [← ht] at hT2 hl2 ⊢
    have hl3 : Hid (t.length ≤ 140737488355328) := by show _ ≤ _; omega
    clear hr hT hlen hl2 ht hz hin hs
    go_enter Tryd.func9, Tryd.ntmps9
    go_wp2_with fail
    refine hq.mono ?_
    rintro e w1 ⟨rfl, hb⟩
    have B5 := Lib.hid (bth5 B4.out hb)
    have H5 := Lib.hid (Wr.made B5.out)
    have K5 := Lib.hid ((K1.out.step hb).alloc (.cells #[.pointer none, .slice none 0 0, .int .i64 0] 63))
    have s5 := K5.out.box.seven
    clear hb hq s0
    go_wp2_with fail
    refine (hT2.out _ _ _ H5.out (by have := hl3.out; simp; omega)).mono ?_
    rintro e w2 ⟨rfl, hw⟩
    have H6 := Lib.hid hw
    clear hw s5
    go_wp2_with fail
    refine (stringP H6.out.pr).mono ?_
    rintro e w3 ⟨rfl, hb⟩
    have B7 := Lib.hid (H6.out.bel.trans hb)
    clear hb
    rw [List.nil_append]
    go_wp2_with fail
    go_ret
    exact ⟨rfl, B7.out⟩

theorem DR.cap {W : World} {A : Option Addr} {n : Nat} (h : CapD W A n) {ad : Addr} (ha : A = some ad) {i : Nat} (hi : i < n) {A1 : Option Addr} {k c1 : Nat} (e : W.cell? ⟨(ad.add (i * 9)).block, (ad.add (i * 9)).off + 5, none⟩ = some (.slice A1 k c1)) : k ≤ c1 := h ad ha i hi A1 k c1 e
theorem flat_le (ds : List DV) : ∀ i, ((ds.take i).flatMap lineD).length ≤ (ds.flatMap lineD).length := by
  induction ds with
  | nil => intro i; simp
  | cons d r ih =>
    intro i
    cases i with
    | zero => simp
    | succ i =>
      have := ih i
      simp only [List.take_succ_cons, List.flatMap_cons, List.length_append]
      omega

set_option maxRecDepth 100000 in
set_option maxHeartbeats 8000000 in
theorem priProgram (ds : List DV) (mn : List SV) (hs : sbk mn + dbk ds ≤ 1100000) (hi : ds.all inD = true) (im : inSs mn = true) (hR : ∀ d ∈ ds, inR d) (A : Option Addr) (c : Nat) (B : Option Addr) (c' : Nat) (w : World) (hL : LaidP w) (hx : DR w A ds) (hy : SR w B mn) (hcap : CapD w A ds.length) :
    Calls Tryd.prog 7 #[pval A ds.length c B mn.length c'] w fun r w' => r = .returned (.string (bs (textQ ds mn))) ∧ Below w.heap.size w w' := by
  have hzb := ssz_bk mn
  have hdl : ds.length ≤ dbk ds := Nat.le_trans (dsz_len ds) (dsz_bk ds)
  have hb0 : Below w.heap.size w (w.alloc (.cells #[.slice A ds.length c, .slice B mn.length c'] 25)) := bnew5 _ _
  have hq := astRight6 ds mn (by omega) A c B c' _ (hL.ast.step hb0) (hx.step hb0) (hy.step hb0)
  have K0 := Lib.hid (Bk.new w [.slice A ds.length c, .slice B mn.length c'] 25 (by decide))
  have B0 := Lib.hid hb0
  have HX := Lib.hid hx
  have HW := Lib.hid hL
  have HC := Lib.hid hcap
  unfold pval at *
  unfold textQ
  have s0 := K0.out.box.two
  cases hr : (rgd ds && rgs mn) with
  | false =>
    rw [hr] at hq
    rw [if_neg (by simp), show bs [] = ⟨#[]⟩ from rfl]
    clear hr hi im hR hs hzb hdl hx hy hL hb0 hcap
    generalize ds.length = n at *
    generalize mn.length = m at *
    go_enter Tryd.func7, Tryd.ntmps7
    go_wp2_with fail
    refine hq.mono ?_
    rintro e w1 ⟨rfl, hb⟩
    have B1 := Lib.hid (bth5 B0.out hb)
    clear hb s0 hq
    go_wp2_with fail
    go_ret
    exact ⟨rfl, B1.out⟩
  | true =>
    rw [hr] at hq
    rw [Bool.and_eq_true] at hr
    have hm := rs_all mn hr.2
    rw [if_pos rfl, textP_eq ds mn hm]
    have hll := small_lines hm im (0 + 1) (by omega)
    have hfl := flat_len ds hr.1 hi hR (by omega)
    have hB := Lib.hid (fun b l A' W' (hw : Wr b l ((0 : Nat) : Int) w A' W') hl => priBlock mn (priStmts (ssz mn) mn (Nat.le_refl _) hm im) b l 0 w A' W' B c' hL hy hw (by omega) hl)
    have hD := Lib.hid (fun i d (h : ds[i]? = some d) => by
      have hmem := List.mem_iff_getElem?.2 ⟨i, h⟩
      have h1 := hr.1
      unfold rgd at h1
      have h2 := dbk_get h
      have h3 : ssz d.body ≤ sbk d.body := ssz_bk d.body
      have h4 := pbk_len d.ps
      have h5 : 1 + ssz d.body ≤ 4000000 ∧ d.ps.length ≤ 4000000 := by unfold dbk1 at h2; omega
      exact (⟨List.all_eq_true.1 h1 d hmem, List.all_eq_true.1 hi d hmem, hR d hmem, h5.1, h5.2⟩ : rgd1 d = true ∧ inD d = true ∧ inR d ∧ 1 + ssz d.body ≤ 4000000 ∧ d.ps.length ≤ 4000000))
    have hle := Lib.hid (flat_le ds)
    obtain ⟨n, hn⟩ : ∃ n, n = ds.length := ⟨_, rfl⟩
    have hall : Hid ((ds.take n).flatMap lineD = ds.flatMap lineD) := by show _ = _; rw [hn, List.take_length]
    rw [← hn] at hq K0 B0 HC s0 hdl ⊢
    have HN := Lib.hid hn
    have hn3 : n ≤ 1100000 := by omega
    obtain ⟨u, hu⟩ : ∃ u, u = ds.flatMap lineD := ⟨_, rfl⟩
    obtain ⟨v, hv⟩ : ∃ v, v = linesB mn (0 + 1) := ⟨_, rfl⟩
    rw [show (1 : Nat) = 0 + 1 from rfl]
    rw [← hu] at hall hfl hle ⊢
    rw [← hv] at hB hll ⊢
    have HLen : Hid (u.length + (v.length + 20) ≤ 140737488355328) := by show _ ≤ _; omega
    obtain ⟨fin, hfin⟩ : ∃ zz, zz = u ++ ([109, 97, 105, 110, 32, 123, 10] ++ (v ++ [125, 10])) := ⟨_, rfl⟩
    have he : Hid (u ++ (ahd 0 ++ (cat [[109, 97, 105, 110, 32, 123]] ++ [10])) ++ v ++ (ahd 0 ++ (cat [[125]] ++ [10])) = fin) := by show _ = _; rw [hfin]; simp [cat, ahd]
    rw [← hfin]
    clear hr hi im hR hs hzb hx hy hL hb0 hcap hm hll hfl hn hu hv hfin
    generalize mn.length = m at *
    go_enter Tryd.func7, Tryd.ntmps7
    go_wp2_with fail
    refine hq.mono ?_
    rintro e w1 ⟨rfl, hb⟩
    have H1 := Lib.hid (Wr.made (bth5 B0.out hb))
    have K1 := Lib.hid ((K0.out.step hb).alloc (.cells #[.pointer none, .slice none 0 0, .int .i64 0] 63))
    have s1 := K1.out.box.two
    have hne : Hid (w.heap.size ≠ w1.heap.size) := fun e => by have := hb.size; simp at this; omega
    clear hb s0 hq K0 B0
    go_wp2_with fail
    obtain ⟨b, hbb⟩ : ∃ b, b = w1.heap.size := ⟨_, rfl⟩
    obtain ⟨V1, hV1⟩ : ∃ V, V = w1.alloc (.cells #[.pointer none, .slice none 0 0, .int .i64 0] 63) := ⟨_, rfl⟩
    rw [← hbb, ← hV1] at H1
    rw [← hV1] at K1 s1
    rw [← hbb] at hne
    rw [← hbb, ← hV1]
    clear hV1 hbb
    go_loopw [12] (fun u V => ∃ i : Nat, i ≤ n ∧ u = .int .i64 i ∧ Hid (Wr b ((ds.take i).flatMap lineD) ((0 : Nat) : Int) w V1 V)) (fun u _ => n - (intOf u).toNat)
    case atStart => exact ⟨0, by omega, rfl, by show Wr _ _ _ _ _ _; exact H1.out⟩
    case round =>
      obtain ⟨i, hi, rfl, hb⟩ := hrel
      by_cases hlt : i < n
      · have hlt' : (i : Int) < n := by omega
        obtain ⟨ad, dv, rfl, he', A2, c2, A3, c3, e0, e1, e2, e3, e4, e5, e6, e7, e8, hx2, hx3⟩ := HX.out.el (i := i) (by rw [← HN.out]; exact hlt)
        obtain ⟨g1, g2, g3, g4, g5⟩ := hD.out i dv he'
        have hcp := DR.cap HC.out rfl hlt e5
        have htk : Hid ((ds.take (i + 1)).flatMap lineD = (ds.take i).flatMap lineD ++ lineD dv) := by show _ = _; rw [List.take_add_one, he']; simp
        have hl1 := hle.out (i + 1)
        rw [htk.out, List.length_append] at hl1
        have HL1 := Lib.hid hl1
        have hT := Lib.hid (fun l A' W' (hw : Wr b l ((0 : Nat) : Int) w A' W') hl => priDecl dv g1 g2 g3 g4 g5 b l w A' W' A2 c2 A3 c3 HW.out hx2 hcp hx3 hw hl)
        have bel := hb.out.bel
        have f0 := cst5 bel e0
        have f1 := cst5 bel e1
        have f2 := cst5 bel e2
        have f3 := cst5 bel e3
        have f4 := cst5 bel e4
        have f5 := cst5 bel e5
        have f6 := cst5 bel e6
        have f7 := cst5 bel e7
        have f8 := cst5 bel e8
        obtain ⟨hA3, hb3, hne3⟩ := hb.out.box [.int .i64 dv.k, .string ⟨dv.x.toArray⟩, .int .i64 dv.lo, .int .i64 dv.hi, .int .i64 dv.sz, .slice A2 dv.ps.length c2, .slice A3 dv.body.length c3, .int .i64 dv.l, .int .i64 dv.c] 47 (by decide)
        have H3 := Lib.hid hA3
        have s3 := hb3.box.nine
        obtain ⟨t, ht⟩ : ∃ t, t = lineD dv := ⟨_, rfl⟩
        rw [← ht] at htk HL1 hT
        unfold dval at hT
        clear hx2 hx3 he' g1 g2 g3 g4 g5 hcp hl1 bel e0 e1 e2 e3 e4 e5 e6 e7 e8 hA3 hb3 ht
        generalize (⟨dv.x.toArray⟩ : ByteArray) = xs at *
        generalize dv.ps.length = m1 at *
        generalize dv.body.length = m2 at *
        generalize dv.k = dk at *
        generalize dv.lo = dlo at *
        generalize dv.hi = dhi at *
        generalize dv.sz = dsz at *
        generalize dv.l = dl at *
        generalize dv.c = dc at *
        go_wp2_with fail
        refine (hT.out _ _ _ H3.out (by have := HL1.out; have := HLen.out; omega)).mono ?_
        rintro e V4 ⟨rfl, hw⟩
        rw [← htk.out] at hw
        have H4 := Lib.hid hw
        clear hw s3 f0 f1 f2 f3 f4 f5 f6 f7 f8
        go_wp2_with fail
        exact ⟨⟨i + 1, by omega, by go_num, H4⟩, by simp [intOf]; omega⟩
      · obtain rfl : i = n := by omega
        have hlt' : ¬ (i : Int) < i := by omega
        have H4 : Hid (Wr b u ((0 : Nat) : Int) w V1 wr) := by have := hb.out; rwa [hall.out] at this
        have K4 := Lib.hid (H4.out.bk K1.out hne.out)
        clear hb s1
        go_wp2_with fail
        refine (lineNew (cs := #[.string ⟨#[109, 97, 105, 110, 32, 123]⟩]) (n := 1) H4.out [[109, 97, 105, 110, 32, 123]] rfl rfl (by simp) (by have := HLen.out; simp [cat]; omega) (by omega)).mono ?_
        rintro e V5 ⟨rfl, hw⟩
        have H5 := Lib.hid hw
        have s5 := (hw.bk K1.out hne.out).box.two
        clear hw
        go_wp2_with fail
        refine (hB.out _ _ _ _ H5.out (by have := HLen.out; simp [cat, ahd]; omega)).mono ?_
        rintro e V6 ⟨rfl, hw⟩
        have H6 := Lib.hid hw
        clear hw s5
        go_wp2_with fail
        refine (lineNew (cs := #[.string ⟨#[125]⟩]) (n := 1) H6.out [[125]] rfl rfl (by simp) (by have := HLen.out; simp [cat, ahd]; omega) (by omega)).mono ?_
        rintro e V7 ⟨rfl, hw⟩
        rw [he.out] at hw
        have H7 := Lib.hid hw
        clear hw
        go_wp2_with fail
        refine (stringP H7.out.pr).mono ?_
        rintro e V8 ⟨rfl, hb⟩
        have B8 := Lib.hid (H7.out.bel.trans hb)
        clear hb
        go_wp2_with fail
        go_ret
        exact ⟨rfl, B8.out⟩
end

section
open Go.RowKit

set_option maxHeartbeats 1000000 in
theorem lawNum7 (n : Int) (w : World) : Calls Tryd.prog 13 #[.int .i64 n] w fun e w' => e = .returned (.agg #[.int .i64 0, .int .i64 n, .string ⟨#[]⟩, .int .i64 0, .slice none 0 0, .int .i64 0, .int .i64 0]) ∧ Below w.heap.size w w' := by
  go_enter Tryd.func13, Tryd.ntmps13
  go_wp2_with fail
  refine bodyPost_ret (v := .agg #[.int .i64 0, .int .i64 n, .string ⟨#[]⟩, .int .i64 0, .slice none 0 0, .int .i64 0, .int .i64 0]) (by simp [results, Tryd.results13, go_sem]) rfl ?_
  exact ⟨rfl, bnew5 _ _⟩

set_option maxHeartbeats 1000000 in
theorem lawName7 (s : ByteArray) (w : World) : Calls Tryd.prog 14 #[.string s] w fun e w' => e = .returned (.agg #[.int .i64 1, .int .i64 0, .string s, .int .i64 0, .slice none 0 0, .int .i64 0, .int .i64 0]) ∧ Below w.heap.size w w' := by
  go_enter Tryd.func14, Tryd.ntmps14
  go_wp2_with fail
  refine bodyPost_ret (v := .agg #[.int .i64 1, .int .i64 0, .string s, .int .i64 0, .slice none 0 0, .int .i64 0, .int .i64 0]) (by simp [results, Tryd.results14, go_sem]) rfl ?_
  exact ⟨rfl, bnew5 _ _⟩

set_option maxHeartbeats 2000000 in
theorem lawOne7 (o : Int) (k n : Int) (s : ByteArray) (p : Int) (A : Option Addr) (m c : Nat) (l cc : Int) (w : World) : Calls Tryd.prog 15 #[.int .i64 o, .agg #[.int .i64 k, .int .i64 n, .string s, .int .i64 p, .slice A m c, .int .i64 l, .int .i64 cc]] w fun e w' => ∃ g, e = .returned (.agg #[.int .i64 3, .int .i64 0, .string ⟨#[]⟩, .int .i64 o, .slice (some ⟨g, 0, none⟩) 1 1, .int .i64 0, .int .i64 0]) ∧ w'.heap[g]? = some (.cells #[.int .i64 k, .int .i64 n, .string s, .int .i64 p, .slice A m c, .int .i64 l, .int .i64 cc] 32 (0, 0)) ∧ Below w.heap.size w w' := by
  have s0 := (Box.new w [.int .i64 k, .int .i64 n, .string s, .int .i64 p, .slice A m c, .int .i64 l, .int .i64 cc] 32).seven
  go_enter Tryd.func15, Tryd.ntmps15
  go_wp2_with fail
  have hsz : ((w.alloc (.cells #[.int .i64 k, .int .i64 n, .string s, .int .i64 p, .slice A m c, .int .i64 l, .int .i64 cc] 32)).alloc (.cells #[.int .i64 3, .int .i64 0, .string ⟨#[]⟩, .int .i64 o, .slice (some ⟨w.heap.size + 1 + 1, 0, none⟩) 1 1, .int .i64 0, .int .i64 0] 32)).heap.size = w.heap.size + 1 + 1 := by simp
  have hg := heap_alloc_new ((w.alloc (.cells #[.int .i64 k, .int .i64 n, .string s, .int .i64 p, .slice A m c, .int .i64 l, .int .i64 cc] 32)).alloc (.cells #[.int .i64 3, .int .i64 0, .string ⟨#[]⟩, .int .i64 o, .slice (some ⟨w.heap.size + 1 + 1, 0, none⟩) 1 1, .int .i64 0, .int .i64 0] 32)) (.cells #[.int .i64 k, .int .i64 n, .string s, .int .i64 p, .slice A m c, .int .i64 l, .int .i64 cc] 32)
  rw [hsz] at hg
  refine bodyPost_ret (v := .agg #[.int .i64 3, .int .i64 0, .string ⟨#[]⟩, .int .i64 o, .slice (some ⟨w.heap.size + 1 + 1, 0, none⟩) 1 1, .int .i64 0, .int .i64 0]) (by simp [results, Tryd.results15, go_sem]) rfl ?_
  exact ⟨w.heap.size + 1 + 1, rfl, hg, bth5 (bth5 (bnew5 _ _) (bnew5 _ _)) (bnew5 _ _)⟩

set_option maxHeartbeats 2000000 in
theorem lawTwo7 (o : Int) (k n : Int) (s : ByteArray) (p : Int) (A : Option Addr) (m c : Nat) (l cc : Int) (k2 n2 : Int) (s2 : ByteArray) (p2 : Int) (A2 : Option Addr) (m2 c2 : Nat) (l2 cc2 : Int) (w : World) : Calls Tryd.prog 12 #[.int .i64 o, .agg #[.int .i64 k, .int .i64 n, .string s, .int .i64 p, .slice A m c, .int .i64 l, .int .i64 cc], .agg #[.int .i64 k2, .int .i64 n2, .string s2, .int .i64 p2, .slice A2 m2 c2, .int .i64 l2, .int .i64 cc2]] w fun e w' => ∃ g, e = .returned (.agg #[.int .i64 4, .int .i64 0, .string ⟨#[]⟩, .int .i64 o, .slice (some ⟨g, 0, none⟩) 2 2, .int .i64 0, .int .i64 0]) ∧ w'.heap[g]? = some (.cells #[.int .i64 k, .int .i64 n, .string s, .int .i64 p, .slice A m c, .int .i64 l, .int .i64 cc, .int .i64 k2, .int .i64 n2, .string s2, .int .i64 p2, .slice A2 m2 c2, .int .i64 l2, .int .i64 cc2] 32 (0, 0)) ∧ Below w.heap.size w w' := by
  go_enter Tryd.func12, Tryd.ntmps12
  go_wp2_with fail
  have hsz : (((w.alloc (.cells #[.int .i64 k, .int .i64 n, .string s, .int .i64 p, .slice A m c, .int .i64 l, .int .i64 cc] 32)).alloc (.cells #[.int .i64 k2, .int .i64 n2, .string s2, .int .i64 p2, .slice A2 m2 c2, .int .i64 l2, .int .i64 cc2] 32)).alloc (.cells #[.int .i64 4, .int .i64 0, .string ⟨#[]⟩, .int .i64 o, .slice (some ⟨w.heap.size + 1 + 1 + 1, 0, none⟩) 2 2, .int .i64 0, .int .i64 0] 32)).heap.size = w.heap.size + 1 + 1 + 1 := by simp
  have hg := heap_alloc_new (((w.alloc (.cells #[.int .i64 k, .int .i64 n, .string s, .int .i64 p, .slice A m c, .int .i64 l, .int .i64 cc] 32)).alloc (.cells #[.int .i64 k2, .int .i64 n2, .string s2, .int .i64 p2, .slice A2 m2 c2, .int .i64 l2, .int .i64 cc2] 32)).alloc (.cells #[.int .i64 4, .int .i64 0, .string ⟨#[]⟩, .int .i64 o, .slice (some ⟨w.heap.size + 1 + 1 + 1, 0, none⟩) 2 2, .int .i64 0, .int .i64 0] 32)) (.cells #[.int .i64 k, .int .i64 n, .string s, .int .i64 p, .slice A m c, .int .i64 l, .int .i64 cc, .int .i64 k2, .int .i64 n2, .string s2, .int .i64 p2, .slice A2 m2 c2, .int .i64 l2, .int .i64 cc2] 32)
  rw [hsz] at hg
  refine bodyPost_ret (v := .agg #[.int .i64 4, .int .i64 0, .string ⟨#[]⟩, .int .i64 o, .slice (some ⟨w.heap.size + 1 + 1 + 1, 0, none⟩) 2 2, .int .i64 0, .int .i64 0]) (by simp [results, Tryd.results12, go_sem]) rfl ?_
  exact ⟨w.heap.size + 1 + 1 + 1, rfl, hg, bth5 (bth5 (bth5 (bnew5 _ _) (bnew5 _ _)) (bnew5 _ _)) (bnew5 _ _)⟩

theorem rowX2 {W : World} {g : Nat} {t : TypeId} {fr : Nat × Nat} {k n o l cc : Int} {x : List UInt8} {gs : List XV} {A : Option Addr} {c : Nat} {k2 n2 o2 l2 cc2 : Int} {x2 : List UInt8} {gs2 : List XV} {A2 : Option Addr} {c2 : Nat} (hg : W.heap[g]? = some (.cells #[.int .i64 k, .int .i64 n, .string ⟨x.toArray⟩, .int .i64 o, .slice A gs.length c, .int .i64 l, .int .i64 cc, .int .i64 k2, .int .i64 n2, .string ⟨x2.toArray⟩, .int .i64 o2, .slice A2 gs2.length c2, .int .i64 l2, .int .i64 cc2] t fr)) (hx : XR W A gs) (hx2 : XR W A2 gs2) : XR W (some ⟨g, 0, none⟩) [.mk k n x o gs l cc, .mk k2 n2 x2 o2 gs2 l2 cc2] :=
  XR.of_block (vs := [.int .i64 k, .int .i64 n, .string ⟨x.toArray⟩, .int .i64 o, .slice A gs.length c, .int .i64 l, .int .i64 cc, .int .i64 k2, .int .i64 n2, .string ⟨x2.toArray⟩, .int .i64 o2, .slice A2 gs2.length c2, .int .i64 l2, .int .i64 cc2]) hg ⟨_, _, rfl, ⟨A, c, rfl, fun h => hx h⟩, _, [], rfl, ⟨A2, c2, rfl, fun h => hx2 h⟩, rfl⟩
def yN (n : Int) : XV := .mk 0 n [] 0 [] 0 0
def yV (x : List UInt8) : XV := .mk 1 0 x 0 [] 0 0
def yB (o : Int) (a b : XV) : XV := .mk 4 0 [] o [a, b] 0 0
def yU (o : Int) (a : XV) : XV := .mk 3 0 [] o [a] 0 0
def yI (x : List UInt8) (a : XV) : XV := .mk 2 0 x 0 [a] 0 0
def y1 : XV := yB 15 (yB 13 (yN 1) (yV [120])) (yN 2)
def y2 : XV := yB 14 (yV [97]) (yB 14 (yV [98]) (yV [99]))
def y3 : XV := yU 18 (yU 18 (yI [116] (yN 3)))
def y4 : List SV := [.mk 4 [] [yN 1] [] [] 0 0]
theorem num_one (n : Nat) (h : n < 10) : numT n = [UInt8.ofNat (48 + n)] := by
  unfold numT
  rw [if_neg (by omega), Lib.itoa_nonneg, Lib.decDigits, dif_pos h]
theorem rN (n : Int) (h : num6 n = true) : RX (yN n) := .num _ _ _ h
theorem rV (x : List UInt8) (h : name6 x = true) : RX (yV x) := .var _ _ _ h
theorem r13 : RX (yB 13 (yN 1) (yV [120])) := .bin _ _ _ _ _ (by omega) (rN 1 (by decide)) (rV _ (by decide))
theorem r1 : RX y1 := .bin _ _ _ _ _ (by omega) r13 (rN 2 (by decide))
theorem r14 : RX (yB 14 (yV [98]) (yV [99])) := .bin _ _ _ _ _ (by omega) (rV _ (by decide)) (rV _ (by decide))
theorem r2 : RX y2 := .bin _ _ _ _ _ (by omega) (rV _ (by decide)) r14
theorem rI : RX (yI [116] (yN 3)) := .idx _ _ _ _ (by decide) (rN 3 (by decide))
theorem rU : RX (yU 18 (yI [116] (yN 3))) := .un _ _ _ _ (by decide) rI
theorem r3 : RX y3 := .un _ _ _ _ (by decide) rU
theorem t1 : textX y1 = [40, 49, 32, 43, 32, 120, 41, 32, 42, 32, 50] := by
  have e : textX (yB 13 (yN 1) (yV [120])) = [49, 32, 43, 32, 120] := by
    unfold yB
    rw [textX_bin _ _ _ _ _ (rN 1 (by decide)) (rV [120] (by decide)), show decide ((yN 1).k = 4 ∧ lev6 (yN 1).o < lev6 13) = false by decide, show decide ((yV [120]).k = 4 ∧ lev6 (yV [120]).o ≤ lev6 13) = false by decide]
    unfold brT yN yV
    rw [if_neg (by simp), if_neg (by simp), textX_num, textX_var, show numT 1 = [49] from num_one 1 (by omega)]
    rfl
  unfold y1
  rw [yB]
  rw [textX_bin _ _ _ _ _ r13 (rN 2 (by decide)), show decide ((yB 13 (yN 1) (yV [120])).k = 4 ∧ lev6 (yB 13 (yN 1) (yV [120])).o < lev6 15) = true by decide, show decide ((yN 2).k = 4 ∧ lev6 (yN 2).o ≤ lev6 15) = false by decide]
  unfold brT
  rw [if_pos rfl, if_neg (by simp), e]
  unfold yN
  rw [textX_num, show numT 2 = [50] from num_one 2 (by omega)]
  rfl
theorem t2 : textX y2 = [97, 32, 45, 32, 40, 98, 32, 45, 32, 99, 41] := by
  have e : textX (yB 14 (yV [98]) (yV [99])) = [98, 32, 45, 32, 99] := by
    unfold yB
    rw [textX_bin _ _ _ _ _ (rV [98] (by decide)) (rV [99] (by decide)), show decide ((yV [98]).k = 4 ∧ lev6 (yV [98]).o < lev6 14) = false by decide, show decide ((yV [99]).k = 4 ∧ lev6 (yV [99]).o ≤ lev6 14) = false by decide]
    unfold brT yV
    rw [if_neg (by simp), if_neg (by simp), textX_var, textX_var]
    rfl
  unfold y2
  rw [yB]
  rw [textX_bin _ _ _ _ _ (rV [97] (by decide)) r14, show decide ((yV [97]).k = 4 ∧ lev6 (yV [97]).o < lev6 14) = false by decide, show decide ((yB 14 (yV [98]) (yV [99])).k = 4 ∧ lev6 (yB 14 (yV [98]) (yV [99])).o ≤ lev6 14) = true by decide]
  unfold brT
  rw [if_neg (by simp), if_pos rfl, e]
  unfold yV
  rw [textX_var]
  rfl
theorem t3 : textX y3 = [45, 45, 116, 91, 51, 93] := by
  have e : textX (yI [116] (yN 3)) = [116, 91, 51, 93] := by
    unfold yI
    rw [textX_idx]
    unfold yN
    rw [textX_num, show numT 3 = [51] from num_one 3 (by omega)]
    rfl
  have e2 : textX (yU 18 (yI [116] (yN 3))) = [45, 116, 91, 51, 93] := by
    unfold yU
    rw [textX_un _ _ _ _ rI, show decide ((yI [116] (yN 3)).k = 4) = false by decide]
    unfold brT
    rw [if_neg (by simp), e]
    rfl
  unfold y3
  rw [yU]
  rw [textX_un _ _ _ _ rU, show decide ((yU 18 (yI [116] (yN 3))).k = 4) = false by decide]
  unfold brT
  rw [if_neg (by simp), e2]
  rfl
theorem t4 : linesB y4 0 = [111, 117, 116, 112, 117, 116, 32, 49, 59, 10] := by
  unfold y4
  rw [linesB_one _ (.out _ _ _ (rN 1 (by decide))), lineS_out _ _ _ _ (rN 1 (by decide))]
  unfold yN
  rw [textX_num, show numT 1 = [49] from num_one 1 (by omega)]
  rfl
theorem g1 : rgx1 y1 = true := by rw [← out_right]; decide +kernel
theorem g2 : rgx1 y2 = true := by rw [← out_right]; decide +kernel
theorem g3 : rgx1 y3 = true := by rw [← out_right]; decide +kernel
theorem g4 : rgs y4 = true := by decide +kernel
theorem e1 : textE y1 = [40, 49, 32, 43, 32, 120, 41, 32, 42, 32, 50] := by unfold textE; rw [if_pos g1, t1]
theorem e2 : textE y2 = [97, 32, 45, 32, 40, 98, 32, 45, 32, 99, 41] := by unfold textE; rw [if_pos g2, t2]
theorem e3 : textE y3 = [45, 45, 116, 91, 51, 93] := by unfold textE; rw [if_pos g3, t3]
theorem e4 : textSt y4 = [111, 117, 116, 112, 117, 116, 32, 49, 59, 10] := by unfold textSt; rw [if_pos g4, t4]

set_option maxRecDepth 100000 in
set_option maxHeartbeats 4000000 in
/-- works. -/
theorem works7 (w : World) (hL : LaidP w) : Calls Tryd.prog 5 #[] w fun e w' => e = .returned (.bool true) ∧ Below w.heap.size w w' := by
  have HL := Lib.hid hL
  clear hL
  have N := fun n V => lawNum7 n V
  have M := fun s V => lawName7 s V
  have q1 := Lib.hid (fun A c V hb hx => priPExpr y1 (by decide +kernel) (by decide +kernel) A c V (HL.out.step hb) hx)
  have q2 := Lib.hid (fun A c V hb hx => priPExpr y2 (by decide +kernel) (by decide +kernel) A c V (HL.out.step hb) hx)
  have q3 := Lib.hid (fun A c V hb hx => priPExpr y3 (by decide +kernel) (by decide +kernel) A c V (HL.out.step hb) hx)
  have q4 := Lib.hid (fun A c V hb hx => priPStmts y4 (by decide +kernel) (by decide +kernel) A c V (HL.out.step hb) hx)
  rw [e1, show bs [40, 49, 32, 43, 32, 120, 41, 32, 42, 32, 50] = ⟨#[40, 49, 32, 43, 32, 120, 41, 32, 42, 32, 50]⟩ from rfl] at q1
  rw [e2, show bs [97, 32, 45, 32, 40, 98, 32, 45, 32, 99, 41] = ⟨#[97, 32, 45, 32, 40, 98, 32, 45, 32, 99, 41]⟩ from rfl] at q2
  rw [e3, show bs [45, 45, 116, 91, 51, 93] = ⟨#[45, 45, 116, 91, 51, 93]⟩ from rfl] at q3
  rw [e4, show bs [111, 117, 116, 112, 117, 116, 32, 49, 59, 10] = ⟨#[111, 117, 116, 112, 117, 116, 32, 49, 59, 10]⟩ from rfl] at q4
  go_enter Tryd.func5, Tryd.ntmps5
  go_wp2_with fail
  refine (lawNum7 1 _).mono ?_
  rintro e V1 ⟨rfl, hb⟩
  have B1 := Lib.hid hb
  clear hb
  go_wp2_with fail
  refine (lawName7 ⟨#[120]⟩ _).mono ?_
  rintro e V2 ⟨rfl, hb⟩
  have B2 := Lib.hid (bth5 B1.out hb)
  clear hb
  go_wp2_with fail
  refine (lawTwo7 _ _ _ _ _ _ _ _ _ _ _ _ _ _ _ _ _ _ _ _).mono ?_
  rintro e V3 ⟨g3, rfl, hg, hb⟩
  have B3 := Lib.hid (bth5 B2.out hb)
  have X3 := Lib.hid (rowX2 (x := []) (x2 := [120]) (gs := []) (gs2 := []) hg (XR.nil _ _) (XR.nil _ _))
  clear hb hg
  go_wp2_with fail
  refine (lawNum7 2 _).mono ?_
  rintro e V4 ⟨rfl, hb⟩
  have B4 := Lib.hid (bth5 B3.out hb)
  have X4 := Lib.hid (X3.out.sub (Sub.below hb))
  clear hb
  go_wp2_with fail
  refine (lawTwo7 _ _ _ _ _ _ _ _ _ _ _ _ _ _ _ _ _ _ _ _).mono ?_
  rintro e V5 ⟨g5, rfl, hg, hb⟩
  have B5 := Lib.hid (bth5 B4.out hb)
  have X5 := Lib.hid (rowX2 (x := []) (x2 := []) (gs := [yN 1, yV [120]]) (gs2 := []) hg (X4.out.sub (Sub.below hb)) (XR.nil _ _))
  clear hb hg
  go_wp2_with fail
  refine (q1.out _ 2 _ B5.out X5.out).mono ?_
  rintro e V6 ⟨rfl, hb⟩
  have B6 := Lib.hid (bth5 B5.out hb)
  clear hb X3 X4 X5 B1 B2 B3 B4 B5 q1
  go_wp2_with fail
  refine (lawName7 ⟨#[97]⟩ _).mono ?_
  rintro e V7 ⟨rfl, hb⟩
  have B7 := Lib.hid (bth5 B6.out hb)
  clear hb
  go_wp2_with fail
  refine (lawName7 ⟨#[98]⟩ _).mono ?_
  rintro e V8 ⟨rfl, hb⟩
  have B8 := Lib.hid (bth5 B7.out hb)
  clear hb
  go_wp2_with fail
  refine (lawName7 ⟨#[99]⟩ _).mono ?_
  rintro e V9 ⟨rfl, hb⟩
  have B9 := Lib.hid (bth5 B8.out hb)
  clear hb
  go_wp2_with fail
  refine (lawTwo7 _ _ _ _ _ _ _ _ _ _ _ _ _ _ _ _ _ _ _ _).mono ?_
  rintro e V10 ⟨g10, rfl, hg, hb⟩
  have B10 := Lib.hid (bth5 B9.out hb)
  have X10 := Lib.hid (rowX2 (x := [98]) (x2 := [99]) (gs := []) (gs2 := []) hg (XR.nil _ _) (XR.nil _ _))
  clear hb hg
  go_wp2_with fail
  refine (lawTwo7 _ _ _ _ _ _ _ _ _ _ _ _ _ _ _ _ _ _ _ _).mono ?_
  rintro e V11 ⟨g11, rfl, hg, hb⟩
  have B11 := Lib.hid (bth5 B10.out hb)
  have X11 := Lib.hid (rowX2 (x := [97]) (x2 := []) (gs := []) (gs2 := [yV [98], yV [99]]) hg (XR.nil _ _) (X10.out.sub (Sub.below hb)))
  clear hb hg
  go_wp2_with fail
  refine (q2.out _ 2 _ B11.out X11.out).mono ?_
  rintro e V12 ⟨rfl, hb⟩
  have B12 := Lib.hid (bth5 B11.out hb)
  clear hb X10 X11 B6 B7 B8 B9 B10 B11 q2
  go_wp2_with fail
  refine (lawNum7 3 _).mono ?_
  rintro e V13 ⟨rfl, hb⟩
  have B13 := Lib.hid (bth5 B12.out hb)
  clear hb
  go_wp2_with fail
  have B14 := Lib.hid (bth5 B13.out (bnew5 V13 (.cells #[.int .i64 0, .int .i64 3, .string ⟨#[]⟩, .int .i64 0, .slice none 0 0, .int .i64 0, .int .i64 0] 32)))
  have X14 := Lib.hid (rowX1 (x := []) (gs := []) (heap_alloc_new V13 (.cells #[.int .i64 0, .int .i64 3, .string ⟨#[]⟩, .int .i64 0, .slice none 0 0, .int .i64 0, .int .i64 0] 32)) (XR.nil _ _))
  refine (lawOne7 _ _ _ _ _ _ _ _ _ _ _).mono ?_
  rintro e V14 ⟨g14, rfl, hg, hb⟩
  have B15 := Lib.hid (bth5 B14.out hb)
  have X15 := Lib.hid (rowX1 (x := [116]) (gs := [yN 3]) hg (X14.out.sub (Sub.below hb)))
  clear hb hg X14 B14
  go_wp2_with fail
  refine (lawOne7 _ _ _ _ _ _ _ _ _ _ _).mono ?_
  rintro e V15 ⟨g15, rfl, hg, hb⟩
  have B16 := Lib.hid (bth5 B15.out hb)
  have X16 := Lib.hid (rowX1 (x := []) (gs := [yI [116] (yN 3)]) hg (X15.out.sub (Sub.below hb)))
  clear hb hg X15 B15
  go_wp2_with fail
  refine (q3.out _ 1 _ B16.out X16.out).mono ?_
  rintro e V16 ⟨rfl, hb⟩
  have B17 := Lib.hid (bth5 B16.out hb)
  clear hb X16 B16 q3 B12 B13
  go_wp2_with fail
  refine (lawNum7 1 _).mono ?_
  rintro e V17 ⟨rfl, hb⟩
  have B18 := Lib.hid (bth5 B17.out hb)
  clear hb
  go_wp2_with fail
  have B19 := Lib.hid (bth5 (bth5 B18.out (bnew5 V17 (.cells #[.int .i64 0, .int .i64 1, .string ⟨#[]⟩, .int .i64 0, .slice none 0 0, .int .i64 0, .int .i64 0] 32))) (bnew5 _ (.cells #[.int .i64 4, .string ⟨#[]⟩, .slice (some ⟨V17.heap.size, 0, none⟩) 1 1, .slice none 0 0, .slice none 0 0, .int .i64 0, .int .i64 0] 37)))
  have X19 : Hid (SR ((V17.alloc (.cells #[.int .i64 0, .int .i64 1, .string ⟨#[]⟩, .int .i64 0, .slice none 0 0, .int .i64 0, .int .i64 0] 32)).alloc (.cells #[.int .i64 4, .string ⟨#[]⟩, .slice (some ⟨V17.heap.size, 0, none⟩) 1 1, .slice none 0 0, .slice none 0 0, .int .i64 0, .int .i64 0] 37)) (some ⟨V17.heap.size + 1, 0, none⟩) y4) := by
    have h1 : XR (V17.alloc (.cells #[.int .i64 0, .int .i64 1, .string ⟨#[]⟩, .int .i64 0, .slice none 0 0, .int .i64 0, .int .i64 0] 32)) (some ⟨V17.heap.size, 0, none⟩) [yN 1] := rowX1 (x := []) (gs := []) (heap_alloc_new V17 (.cells #[.int .i64 0, .int .i64 1, .string ⟨#[]⟩, .int .i64 0, .slice none 0 0, .int .i64 0, .int .i64 0] 32)) (XR.nil _ _)
    have h2 := heap_alloc_new (V17.alloc (.cells #[.int .i64 0, .int .i64 1, .string ⟨#[]⟩, .int .i64 0, .slice none 0 0, .int .i64 0, .int .i64 0] 32)) (.cells #[.int .i64 4, .string ⟨#[]⟩, .slice (some ⟨V17.heap.size, 0, none⟩) 1 1, .slice none 0 0, .slice none 0 0, .int .i64 0, .int .i64 0] 37)
    rw [show (V17.alloc (.cells #[.int .i64 0, .int .i64 1, .string ⟨#[]⟩, .int .i64 0, .slice none 0 0, .int .i64 0, .int .i64 0] 32)).heap.size = V17.heap.size + 1 by simp] at h2
    exact rowS1 h2 (h1.sub (Sub.below (bnew5 _ _)))
  refine (q4.out _ 1 _ B19.out X19.out).mono ?_
  rintro e V18 ⟨rfl, hb⟩
  have B20 := Lib.hid (bth5 B19.out hb)
  clear hb X19 B19 q4 B17 B18
  go_wp2_with fail
  go_ret
  exact ⟨rfl, B20.out⟩
end
end Go.Proofs.YtejifkeeihkcjaaDoor
