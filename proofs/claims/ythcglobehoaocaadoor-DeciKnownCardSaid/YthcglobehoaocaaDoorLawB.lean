/- The law DeciBack. -/
import Derived.Test.YthcglobehoaocaaDoorLawT
import Derived.Test.YthcglobehoaocaaDoorDeciM
import Derived.Lib.ItoaLen
namespace Go.Proofs.YthcglobehoaocaaDoor
open Go.RowKit

theorem Nb.drew {w W : World} {g n c N : Nat} {A : Option Addr} (h : Nb w g A n c N W) : Nb w g A n c N W.drew := h.step (Below.refl _ _).drew

/-- What stands while DeciBack runs: the two numbers in their boxes. -/
structure Bs (w : World) (gx : Nat) (Ax : Option Addr) (nx cx NX gy : Nat) (Ay : Option Addr) (ny cy NY : Nat) (W : World) : Prop where
  x : Nb w gx Ax nx cx NX W
  y : Nb w gy Ay ny cy NY W
  laid : Laid W
  below : Below w.heap.size w W
theorem Bs.step {w W W' : World} {gx nx cx NX gy ny cy NY : Nat} {Ax Ay : Option Addr} (h : Bs w gx Ax nx cx NX gy Ay ny cy NY W) (hb : Below W.heap.size W W') : Bs w gx Ax nx cx NX gy Ay ny cy NY W' :=
  ⟨h.x.step hb, h.y.step hb, h.laid.below hb, bthen h.below hb⟩
theorem Bs.alloc {w W : World} {gx nx cx NX gy ny cy NY : Nat} {Ax Ay : Option Addr} (h : Bs w gx Ax nx cx NX gy Ay ny cy NY W) (o : Obj) : Bs w gx Ax nx cx NX gy Ay ny cy NY (W.alloc o) := h.step (below_new W o)
theorem Bs.drew {w W : World} {gx nx cx NX gy ny cy NY : Nat} {Ax Ay : Option Addr} (h : Bs w gx Ax nx cx NX gy Ay ny cy NY W) : Bs w gx Ax nx cx NX gy Ay ny cy NY W.drew := h.step (Below.refl _ _).drew

theorem divAny {A : Option Addr} {n c N b : Nat} {w : World} (y : Nat) (h : Num w b A n c N) (hyl : y < LB) (hn : n ≤ 100000000000) :
    Calls Tryd.prog 13 #[.agg #[.slice A n c], .int .u64 y] w fun e w' => ∃ A1 n1 c1 ri ei, e = .returned (.tuple #[.agg #[.slice A1 n1 c1], .int .u64 ri, .int .i64 ei]) ∧ ((y = 0 ∧ ei = 2) ∨ (0 < y ∧ ei = 0 ∧ ri = ((N % y : Nat) : Int) ∧ Num w' w.heap.size A1 n1 c1 (N / y) ∧ n1 ≤ n)) ∧ Below w.heap.size w w' := by
  rcases Nat.eq_zero_or_pos y with h0 | h0
  · subst h0
    exact (deciDiv_zero A n c w).mono fun e w' ⟨h1, h2⟩ => ⟨none, 0, 0, 0, 2, h1, .inl ⟨rfl, rfl⟩, h2⟩
  · exact (deciDiv y h h0 hyl hn).mono fun e w' ⟨A1, n1, c1, h1, h2, h3, h4⟩ => ⟨A1, n1, c1, _, _, h1, .inr ⟨h0, rfl, rfl, h2, h3⟩, h4⟩

theorem dec_list (N : Nat) : (⟨(Lib.decDigits N).toArray⟩ : ByteArray).data.toList = Lib.decDigits N := by simp
theorem parseDec_yes (N : Nat) (c0 : Int) (sX : ByteArray) (hX : sX = ⟨(Lib.decDigits N).toArray⟩) (hz : sX.size ≤ 1000000) (hf : Fit c0 N) (w : World) :
    Calls Tryd.prog 20 #[.string sX, .int .i64 c0] w fun e w' => ∃ A1 n1 c1, e = .returned (.tuple #[.agg #[.slice A1 n1 c1], .int .i64 0]) ∧ Num w' w.heap.size A1 n1 c1 N ∧ Below w.heap.size w w' := by
  have h := deciParse_yes sX c0 w (by rw [hX, dec_list]; exact dec_canon N) hz
  refine h.mono ?_
  rintro e w' ⟨h1, hb⟩
  rw [hX, dec_list, dval_dec] at h1
  rcases h1 with ⟨_, A1, n1, c1, h2, h3, _⟩ | ⟨h2, _⟩
  · exact ⟨A1, n1, c1, h2, h3, hb⟩
  · exact absurd hf h2
theorem parseDec_no (N : Nat) (c0 : Int) (sX : ByteArray) (hX : sX = ⟨(Lib.decDigits N).toArray⟩) (hz : sX.size ≤ 1000000) (hf : ¬ Fit c0 N) (w : World) :
    Calls Tryd.prog 20 #[.string sX, .int .i64 c0] w fun e w' => e = .returned (.tuple #[.agg #[.slice none 0 0], .int .i64 10]) ∧ Below w.heap.size w w' := by
  have h := deciParse_yes sX c0 w (by rw [hX, dec_list]; exact dec_canon N) hz
  refine h.mono ?_
  rintro e w' ⟨h1, hb⟩
  rw [hX, dec_list, dval_dec] at h1
  rcases h1 with ⟨h2, _⟩ | ⟨_, h2⟩
  · exact absurd h2 hf
  · exact ⟨h2, hb⟩
theorem parseAny (s : ByteArray) (c0 : Int) (w : World) (hs : s.size ≤ 60) :
    Calls Tryd.prog 20 #[.string s, .int .i64 c0] w fun e w' => ∃ A1 n1 c1 ei, e = .returned (.tuple #[.agg #[.slice A1 n1 c1], .int .i64 ei]) ∧ ((ei = 0 ∧ Fit c0 (dval s.data.toList) ∧ Canon s.data.toList ∧ Num w' w.heap.size A1 n1 c1 (dval s.data.toList) ∧ n1 ≤ 60) ∨ (ei = 10 ∧ A1 = none ∧ n1 = 0 ∧ c1 = 0 ∧ Canon s.data.toList ∧ ¬ Fit c0 (dval s.data.toList)) ∨ (ei = 20 ∧ A1 = none ∧ n1 = 0 ∧ c1 = 0 ∧ ¬ Canon s.data.toList)) ∧ Below w.heap.size w w' := by
  by_cases hc : Canon s.data.toList
  · refine (deciParse_yes s c0 w hc (by omega)).mono ?_
    rintro e w' ⟨⟨h1, A1, n1, c1, h2, h3, h4⟩ | ⟨h1, h2⟩, hb⟩
    · exact ⟨A1, n1, c1, 0, h2, .inl ⟨rfl, h1, hc, h3, by omega⟩, hb⟩
    · exact ⟨none, 0, 0, 10, h2, .inr (.inl ⟨rfl, rfl, rfl, rfl, hc, h1⟩), hb⟩
  · refine (deciParse_no s c0 w hc).mono ?_
    rintro e w' ⟨h2, hb⟩
    exact ⟨none, 0, 0, 20, h2, .inr (.inr ⟨rfl, rfl, rfl, rfl, hc⟩), hb⟩
theorem parseBack (s : ByteArray) (c0 : Int) (w : World) (hs : s.size ≤ 60) :
    Calls Tryd.prog 20 #[.string s, .int .i64 c0] w fun e w' => ∃ A1 n1 c1 ei V, e = .returned (.tuple #[.agg #[.slice A1 n1 c1], .int .i64 ei]) ∧ ((ei = 0 ∧ s = ⟨(Lib.decDigits V).toArray⟩ ∧ Num w' w.heap.size A1 n1 c1 V ∧ n1 ≤ 60) ∨ (ei ≠ 0 ∧ (ei == 0) = false)) ∧ Below w.heap.size w w' := by
  refine (parseAny s c0 w hs).mono ?_
  rintro e w' ⟨A1, n1, c1, ei, h1, h2, h3⟩
  refine ⟨A1, n1, c1, ei, dval s.data.toList, h1, ?_, h3⟩
  rcases h2 with ⟨k1, k2, k3, k4, k5⟩ | ⟨k1, _⟩ | ⟨k1, _⟩
  · exact .inl ⟨k1, by rw [(canon_iff _).1 k3, bytesOf], k4, k5⟩
  · exact .inr ⟨by omega, by subst k1; decide⟩
  · exact .inr ⟨by omega, by subst k1; decide⟩
theorem parseWholeAny (s : ByteArray) (w : World) (hL : Laid w) (hs : s.size ≤ 60) :
    Calls Tryd.prog 22 #[.string s] w fun e w' => ∃ v ki : Int, e = .returned (.tuple #[.int .i64 v, .int .i64 ki]) ∧ ((ki = 0 ∧ (-9223372036854775808 ≤ v ∧ v ≤ 9223372036854775807) ∧ s = ⟨(Lib.itoa v).toArray⟩) ∨ (ki = 20 ∧ v = 0 ∧ ¬ ∃ v, spells s.data.toList v)) ∧ Below w.heap.size w w' := by
  by_cases h : ∃ v, spells s.data.toList v
  · obtain ⟨v, hv⟩ := h
    have hb := (spells_iff _ _).1 hv
    refine (parseWhole_yes s v w hL (by omega) hv hb.1.1 hb.1.2).mono ?_
    rintro e w' ⟨h1, h2⟩
    exact ⟨v, 0, h1, .inl ⟨rfl, hb.1, by rw [hb.2, bytesOf]⟩, h2⟩
  · refine (parseWhole_no s w hL (by omega) h).mono ?_
    rintro e w' ⟨h1, h2⟩
    exact ⟨0, 20, h1, .inr ⟨rfl, rfl, h⟩, h2⟩
theorem natCmp_z {A A' : Option Addr} {n c n' c' M N b b' : Nat} {w : World} {z : Int} (hM : Num w b A n c M) (hN : Num w b' A' n' c' N) (h : cmpI M N = z) :
    Calls Tryd.prog 24 #[.agg #[.slice A n c], .agg #[.slice A' n' c']] w fun e w' => e = .returned (.int .i64 z) ∧ Below w.heap.size w w' := by
  have := natCmp hM hN
  rw [h] at this
  exact this
theorem len_fit {A : Option Addr} {n c N b : Nat} {w : World} (h : Num w b A n c N) : Fit (n : Int) N := (h.fit n).1 (by unfold capN; omega)
theorem len_unfit {A : Option Addr} {n c N b : Nat} {w : World} (h : Num w b A n c N) : Fit ((n : Int) - 1) N ↔ n = 0 := by
  rw [← h.fit]
  unfold capN
  omega

set_option maxRecDepth 100000 in
set_option maxHeartbeats 16000000 in
theorem back_any (A : Option Addr) (n c : Nat) (l : List Nat) (A' : Option Addr) (n' c' : Nat) (l' : List Nat) (y : Nat) (m : Int) (s : ByteArray) (w : World) (hr : Row w w.heap.size .u64 A n l) (bl : Dig.Below LB l) (hr' : Row w w.heap.size .u64 A' n' l') (bl' : Dig.Below LB l') (hy : y < LB) (hL : Laid w) (hn : n ≤ 6) (hn' : n' ≤ 6) (hs : s.size ≤ 60) (m0 : -9223372036854775808 ≤ m) (m1 : m ≤ 9223372036854775807) :
    Calls Tryd.prog 6 #[.slice A n c, .slice A' n' c', .int .u64 y, .int .i64 m, .string s] w fun e w' => e = .returned (.bool true) ∧ Below w.heap.size w w' := by
  have hno1 : ¬ ((6 : Int) < n) := by omega
  have hno2 : ¬ ((6 : Int) < n') := by omega
  have hno3 : ¬ ((60 : Int) < s.size) := by omega
  go_enter Tryd.func6, Tryd.ntmps6
  go_wp2_with fail
  refine (lawOwn A n c l w hr (by omega)).mono ?_
  rintro e w1 ⟨A1, c1, rfl, hown1, hb1⟩
  have hs1 := hb1.size
  go_wp2_with fail
  refine (natLimbs A1 n c1 l w1 hown1.row bl hown1.cap.1 hown1.cap.2 (by omega)).mono ?_
  rintro e w2 ⟨A2, n2, c2, rfl, hnum2, hn2, hb2⟩
  have hb12 : Below w.heap.size w w2 := bthen hb1 hb2
  have hrow2 := (hr'.below hb12).more hb12.size
  have hs2 := hb2.size
  clear hown1 hb1 hb2 hr hr'
  go_wp2_with fail
  refine (lawOwn A' n' c' l' w2 hrow2 (by omega)).mono ?_
  rintro e w3 ⟨A3, c3, rfl, hown3, hb3⟩
  have hs3 := hb3.size
  go_wp2_with fail
  refine (natLimbs A3 n' c3 l' w3 hown3.row bl' hown3.cap.1 hown3.cap.2 (by omega)).mono ?_
  rintro e w4 ⟨A4, n4, c4, rfl, hnum4, hn4, hb4⟩
  have hs4 := hb4.size
  have hb14 : Below w.heap.size w w4 := bthen (bthen hb12 hb3) hb4
  have hnum2' := (hnum2.below hb3).below hb4
  have hbs : Bs w w4.heap.size A2 n2 c2 (Dig.val LB l) (w4.heap.size + 1) A4 n4 c4 (Dig.val LB l') ((w4.alloc (.cells #[.slice A2 n2 c2] 26)).alloc (.cells #[.slice A4 n4 c4] 26)) := by
    have hbb : Below w4.heap.size w4 ((w4.alloc (.cells #[.slice A2 n2 c2] 26)).alloc (.cells #[.slice A4 n4 c4] 26)) := (below_new w4 _).alloc (by simp) _
    exact ⟨⟨⟨by simp [go_sem], by simp [go_sem]⟩, (hnum2'.below hbb).mono (by omega)⟩, ⟨⟨by simp [go_sem], by simp [go_sem]⟩, (hnum4.below hbb).mono (by omega)⟩, (hL.below hb14).below hbb, bthen hb14 hbb⟩
  have hgw : w.heap.size ≤ w4.heap.size := hb14.size
  clear hown3 hnum2 hnum4 hnum2' hb12 hb14 hb3 hb4 hrow2 hL
  obtain ⟨sX, hX⟩ : ∃ sX : ByteArray, sX = ⟨(Lib.decDigits (Dig.val LB l)).toArray⟩ := ⟨_, rfl⟩
  obtain ⟨sY, hY⟩ : ∃ sY : ByteArray, sY = ⟨(Lib.decDigits (Dig.val LB l')).toArray⟩ := ⟨_, rfl⟩
  have HX := Lib.hid hX
  have HY := Lib.hid hY
  have hcase := Lib.hid (cmp_cases _ _ sX sY hX hY)
  have hsX : Hid (Lib.nDigits (Dig.val LB l) = sX.size) := by show _ = _; rw [hX, size_list, Lib.decDigits_length]
  have hX6 : Hid (sX.size ≤ 1000000) := by
    have hlt : Dig.val LB l < LB ^ n2 := by
      have := (hbs.x.num.fit n2).1 (by unfold capN; omega)
      unfold Fit capN at this
      simpa using this
    have := nDigits_lt hlt (by omega)
    rw [hsX.out] at this
    exact this
  clear hX hY
  go_wp2_with fail
  generalize ((w4.alloc (.cells #[.slice A2 n2 c2] 26)).alloc (.cells #[.slice A4 n4 c4] 26)) = W at *
  generalize w4.heap.size = gx at *
  generalize hgy : gx + 1 = gy at *
  clear hgy
  generalize Dig.val LB l = NX at *
  generalize Dig.val LB l' = NY at *
  have hc1 := hbs.x.box.1
  have hf1 := hbs.x.box.2
  refine (divAny y hbs.x.num hy (by omega)).mono ?_
  rintro e w5 ⟨A5, n5, c5, ri, ei, rfl, hdiv, hb5⟩
  have hs5 := hb5.size
  have hsW := hbs.below.size
  have hbs5 := (hbs.step hb5).alloc (.cells #[.slice A5 n5 c5] 26)
  clear hbs hc1 hf1
  go_wp2_with fail
  rename_i K5 hK5
  have key5 : ∀ (x13 x14 x15 x30 x31 x32 x33 x34 x35 x36 x37 x38 x39 x40 x41 x42 x43 x44 x45 x46 x47 x48 x49 x50 x51 x52 x53 x54 x55 x56 x57 x58 x59 x60 x61 x62 x63 x64 x65 x66 x67 x68 x69 x70 x71 x72 x73 x74 x75 x76 x77 x78 x79 x80 x81 : Value) (W : World), Bs w gx A2 n2 c2 NX gy A4 n4 c4 NY W →
      K5 { tmps := (List.toArray (.slice A n c :: .slice A' n' c' :: .int .u64 y :: .int .i64 m :: .string s :: undef :: undef :: undef :: undef :: undef :: .bool false :: .pointer (some ⟨gx, 0, none⟩) :: .pointer (some ⟨gy, 0, none⟩) :: x13 :: x14 :: x15 :: undef :: undef :: undef :: undef :: undef :: undef :: undef :: undef :: undef :: undef :: undef :: undef :: undef :: undef :: x30 :: x31 :: x32 :: x33 :: x34 :: x35 :: x36 :: x37 :: x38 :: x39 :: x40 :: x41 :: x42 :: x43 :: x44 :: x45 :: x46 :: x47 :: x48 :: x49 :: x50 :: x51 :: x52 :: x53 :: x54 :: x55 :: x56 :: x57 :: x58 :: x59 :: x60 :: x61 :: x62 :: x63 :: x64 :: x65 :: x66 :: x67 :: x68 :: x69 :: x70 :: x71 :: x72 :: x73 :: x74 :: x75 :: x76 :: x77 :: x78 :: x79 :: x80 :: x81 :: .bool false :: undef :: undef :: undef :: undef :: undef :: undef :: undef :: undef :: undef :: undef :: undef :: undef :: undef :: undef :: undef :: undef :: undef :: undef :: undef :: undef :: undef :: undef :: undef :: undef :: undef :: undef :: undef :: undef :: undef :: undef :: undef :: undef :: undef :: undef :: undef :: undef :: undef :: undef :: undef :: undef :: undef :: undef :: undef :: undef :: undef :: undef :: undef :: undef :: undef :: undef :: undef :: undef :: undef :: undef :: undef :: undef :: undef :: undef :: undef :: undef :: undef :: undef :: undef :: undef :: undef :: undef :: undef :: undef :: undef :: undef :: undef :: undef :: undef :: undef :: undef :: undef :: undef :: undef :: undef :: undef :: undef :: undef :: undef :: undef :: undef :: undef :: undef :: undef :: undef :: undef :: undef :: undef :: undef :: undef :: undef :: undef :: undef :: undef :: undef :: undef :: undef :: undef :: undef :: undef :: undef :: undef :: undef :: undef :: undef :: undef :: undef :: undef :: undef :: undef :: undef :: undef :: undef :: undef :: undef :: undef :: undef :: undef :: undef :: undef :: [])), defers := [] } W := by
    intro x13 x14 x15 x30 x31 x32 x33 x34 x35 x36 x37 x38 x39 x40 x41 x42 x43 x44 x45 x46 x47 x48 x49 x50 x51 x52 x53 x54 x55 x56 x57 x58 x59 x60 x61 x62 x63 x64 x65 x66 x67 x68 x69 x70 x71 x72 x73 x74 x75 x76 x77 x78 x79 x80 x81 W hst
    refine hK5 _ _ ?_
    clear hK5 hdiv hbs5 hb5 hs5
    have hc1 := hst.x.box.1
    have hf1 := hst.x.box.2
    have hc2 := hst.y.box.1
    have hf2 := hst.y.box.2
    have hst1 := hst.drew
    have hT1 := hst1.x.num.text (by omega)
    rw [← HX.out] at hT1
    go_wp2_with fail
    have hk1 := hst1.x.box.1
    have hk2 := hst1.y.box.1
    go_region_held3 (fun w' => w'.cell? ⟨gx, 0, none⟩ = some (.slice A2 n2 c2) ∧ w'.cell? ⟨gy, 0, none⟩ = some (.slice A4 n4 c4)) (first | exact ⟨hst3.x.box.1, hst3.y.box.1⟩ | exact ⟨hst2.x.box.1, hst2.y.box.1⟩ | exact ⟨hk1, hk2⟩)
      (first
        | (go_at_call 16
           with_reducible refine hT1.mono ?_
           rintro e v1 ⟨rfl, kb1⟩
           have hst2 := hst1.step kb1
           have hT2 := hst2.y.num.text (by omega)
           rw [← HY.out] at hT2)
        | (go_at_call 16
           with_reducible refine hT2.mono ?_
           rintro e v2 ⟨rfl, kb2⟩
           have hst3 := hst2.step kb2))
    clear hst hc1 hf1 hc2 hf2 hst1 hk1 hk2 hT1 hT2 hst2 kb1 kb2
    have hc3 := hst3.x.box.1
    have hf3 := hst3.x.box.2
    go_wp2_with fail
    refine (natLen A2 n2 c2 v2).mono ?_
    rintro e w6 ⟨rfl, hb6⟩
    have hst6 := hst3.step hb6
    clear hst3 hc3 hf3 hb6
    go_wp2_with fail
    refine (parseDec_yes NX (n2 : Int) sX HX.out hX6.out (len_fit hst6.x.num) w6).mono ?_
    rintro e w7 ⟨Az, nz, cz, rfl, hnumz, hb7⟩
    have hgz := hst6.below.size
    have hst7 := (hst6.step hb7).alloc (.cells #[.slice Az nz cz] 26)
    have hz7 := Nb.new (w := w) hnumz (by omega)
    clear hst6 hnumz hb7 hgz
    have hc7 := hst7.x.box.1
    have hf7 := hst7.x.box.2
    have hcz := hz7.box.1
    have hfz := hz7.box.2
    go_wp2_with fail
    generalize w7.alloc (.cells #[.slice Az nz cz] 26) = W7 at *
    generalize w7.heap.size = gz at *
    refine (natCmp_z hz7.num hst7.x.num (cmpI_eq rfl)).mono ?_
    rintro e w8 ⟨rfl, hb8⟩
    have hst8 := hst7.step hb8
    clear hst7 hz7 hc7 hf7 hcz hfz hb8
    have hc8 := hst8.x.box.1
    have hf8 := hst8.x.box.2
    have hdg := hst8.x.num.digits (by omega)
    rw [hsX.out] at hdg
    go_wp2_with fail
    refine hdg.mono ?_
    rintro e w9 ⟨rfl, hb9⟩
    have hst9 := hst8.step hb9
    clear hst8 hc8 hf8 hdg hb9
    have hc9 := hst9.x.box.1
    have hf9 := hst9.x.box.2
    go_wp2_with fail
    refine (natLen A2 n2 c2 w9).mono ?_
    rintro e wa ⟨rfl, hba⟩
    have hsta := hst9.step hba
    clear hst9 hc9 hf9 hba
    have hwr : IntKind.i64.wrap ((n2 : Int) - 1) = (n2 : Int) - 1 := by rw [IntKind.wrap_i64]; omega
    have hpar : ∀ W, Calls Tryd.prog 20 #[.string sX, .int .i64 ((n2 : Int) - 1)] W fun e w' => ∃ A1 n1 c1, e = .returned (.tuple #[.agg #[.slice A1 n1 c1], .int .i64 (if n2 = 0 then 0 else 10)]) ∧ Below W.heap.size W w' := by
      intro W
      by_cases h0 : n2 = 0
      · rw [if_pos h0]
        exact (parseDec_yes NX _ sX HX.out hX6.out ((len_unfit hsta.x.num).2 h0) W).mono fun e w' ⟨A1, n1, c1, h1, h2, h3⟩ => ⟨A1, n1, c1, h1, h3⟩
      · rw [if_neg h0]
        exact (parseDec_no NX _ sX HX.out hX6.out (fun h => h0 ((len_unfit hsta.x.num).1 h)) W).mono fun e w' ⟨h1, h3⟩ => ⟨none, 0, 0, h1, h3⟩
    have hgcase : ((if n2 = 0 then (0 : Int) else 10) = 0 ∧ n2 = 0) ∨ ((if n2 = 0 then (0 : Int) else 10) = 10 ∧ 0 < n2) := by
      by_cases h0 : n2 = 0
      · left; exact ⟨if_pos h0, h0⟩
      · right; exact ⟨if_neg h0, by omega⟩
    generalize (if n2 = 0 then (0 : Int) else 10) = gi at *
    go_wp2_with fail
    refine (hpar wa).mono ?_
    rintro e wb ⟨A8, n8, c8, rfl, hbb⟩
    have hstb := (hsta.step hbb).alloc (.cells #[.slice A8 n8 c8] 26)
    clear hsta hpar hbb hwr
    have hcb := hstb.x.box.1
    have hfb := hstb.x.box.2
    go_wp2_with fail
    generalize wb.alloc (.cells #[.slice A8 n8 c8] 26) = Wb at *
    generalize wb.heap.size = gb at *
    refine (natLen A2 n2 c2 Wb).mono ?_
    rintro e wc ⟨rfl, hbc⟩
    have hstc := hstb.step hbc
    clear hstb hcb hfb hbc
    have hcc := hstc.x.box.1
    have hfc := hstc.x.box.2
    have hcd := hstc.y.box.1
    have hfd := hstc.y.box.2
    have hcases := hcase.out
    have hwh := fun w hL => deciWhole m m0 m1 w hL
    obtain ⟨sM, hsM⟩ : ∃ sM : ByteArray, sM = ⟨(Lib.itoa m).toArray⟩ := ⟨_, rfl⟩
    have hpw : ∀ w, Laid w → Calls Tryd.prog 22 #[.string sM] w fun e w' => e = .returned (.tuple #[.int .i64 m, .int .i64 0]) ∧ Below w.heap.size w w' := fun w hL => by
      have hl := Lib.itoa_length_le m m0 m1
      exact parseWhole_yes sM m w hL (by rw [hsM, size_list]; omega) (by rw [hsM]; simpa using spells_itoa m m0 m1) m0 m1
    rw [← hsM] at hwh
    have hse := str_eq s
    have hxe := str_eq sX
    clear hsM hcase
    clear hse hxe
    rename_i K12 hK12 K12b hK12b
    have key12 : ∀ (z13 z14 z15 z18 z19 z20 z21 z30 z31 z32 z33 z34 z35 z36 z37 z38 z39 z40 z41 z42 z43 z44 z45 z46 z47 z48 z49 z50 z51 z52 z53 z54 z55 z56 z57 z58 z59 z60 z61 z62 z63 z64 z65 z66 z67 z68 z69 z70 z71 z72 z73 z74 z75 z76 z77 z78 z79 z80 z81 z82 z83 z84 z85 z86 z87 z88 z89 z90 z91 z92 z93 z94 z95 z96 z97 z98 z99 z100 z101 z102 z103 z104 z105 z106 z107 z108 z109 z110 z111 z112 z113 z114 z115 z116 z117 z118 z119 z120 z121 z122 z123 z124 z125 z126 z127 z128 z129 : Value) (W : World), Bs w gx A2 n2 c2 NX gy A4 n4 c4 NY W →
        K12 { tmps := (List.toArray (.slice A n c :: .slice A' n' c' :: .int .u64 y :: .int .i64 m :: .string s :: undef :: undef :: undef :: undef :: undef :: .bool false :: .pointer (some ⟨gx, 0, none⟩) :: .pointer (some ⟨gy, 0, none⟩) :: z13 :: z14 :: z15 :: .string sX :: .string sY :: z18 :: z19 :: z20 :: z21 :: undef :: undef :: undef :: undef :: undef :: undef :: undef :: undef :: z30 :: z31 :: z32 :: z33 :: z34 :: z35 :: z36 :: z37 :: z38 :: z39 :: z40 :: z41 :: z42 :: z43 :: z44 :: z45 :: z46 :: z47 :: z48 :: z49 :: z50 :: z51 :: z52 :: z53 :: z54 :: z55 :: z56 :: z57 :: z58 :: z59 :: z60 :: z61 :: z62 :: z63 :: z64 :: z65 :: z66 :: z67 :: z68 :: z69 :: z70 :: z71 :: z72 :: z73 :: z74 :: z75 :: z76 :: z77 :: z78 :: z79 :: z80 :: z81 :: z82 :: z83 :: z84 :: z85 :: z86 :: z87 :: z88 :: z89 :: z90 :: z91 :: z92 :: z93 :: z94 :: z95 :: z96 :: z97 :: z98 :: z99 :: z100 :: z101 :: z102 :: z103 :: z104 :: z105 :: z106 :: z107 :: z108 :: z109 :: z110 :: z111 :: z112 :: z113 :: z114 :: z115 :: z116 :: z117 :: z118 :: z119 :: z120 :: z121 :: z122 :: z123 :: z124 :: z125 :: z126 :: z127 :: z128 :: z129 :: .bool false :: undef :: undef :: undef :: undef :: undef :: undef :: undef :: undef :: undef :: undef :: undef :: undef :: undef :: undef :: undef :: undef :: undef :: undef :: undef :: undef :: undef :: undef :: undef :: undef :: undef :: undef :: undef :: undef :: undef :: undef :: undef :: undef :: undef :: undef :: undef :: undef :: undef :: undef :: undef :: undef :: undef :: undef :: undef :: undef :: undef :: undef :: undef :: undef :: undef :: undef :: undef :: undef :: undef :: undef :: undef :: undef :: undef :: undef :: undef :: undef :: undef :: undef :: undef :: undef :: undef :: undef :: undef :: undef :: undef :: undef :: undef :: undef :: undef :: undef :: undef :: undef :: [])), defers := [] } W := by
      intro z13 z14 z15 z18 z19 z20 z21 z30 z31 z32 z33 z34 z35 z36 z37 z38 z39 z40 z41 z42 z43 z44 z45 z46 z47 z48 z49 z50 z51 z52 z53 z54 z55 z56 z57 z58 z59 z60 z61 z62 z63 z64 z65 z66 z67 z68 z69 z70 z71 z72 z73 z74 z75 z76 z77 z78 z79 z80 z81 z82 z83 z84 z85 z86 z87 z88 z89 z90 z91 z92 z93 z94 z95 z96 z97 z98 z99 z100 z101 z102 z103 z104 z105 z106 z107 z108 z109 z110 z111 z112 z113 z114 z115 z116 z117 z118 z119 z120 z121 z122 z123 z124 z125 z126 z127 z128 z129 W hst
      refine hK12 _ _ ?_
      clear hK12 hK12b K12b hstc hcc hfc hcd hfd hgcase
      have hse := str_eq s
      have hxe := str_eq sX
      have hcc := hst.x.box.1
      have hfc := hst.x.box.2
      have hcd := hst.y.box.1
      have hfd := hst.y.box.2
      rcases hcases with ⟨z1, z2, z3⟩ | ⟨z1, z2, z3, z4⟩ | ⟨z1, z2, z3⟩ | ⟨z1, z2, z3⟩ | ⟨z1, z2, z3, z4⟩
      case' inr.inr.inl => subst z2
      all_goals
        (go_wp2_with fail
         refine (natCmp_z hst.x.num hst.y.num z1).mono ?_
         rintro e wd ⟨rfl, hbd⟩
         have hstd := hst.step hbd
         clear hst hcc hfc hcd hfd hbd
         go_wp2_with fail
         refine (hwh wd hstd.laid).mono ?_
         rintro e we ⟨rfl, hbe⟩
         have hste := hstd.step hbe
         clear hstd hbe
         go_wp2_with fail
         refine (hpw we hste.laid).mono ?_
         rintro e wf ⟨rfl, hbf⟩
         have hstf := hste.step hbf
         clear hste hbf
         go_wp2_with fail
         refine (parseBack s 9 wf hs).mono ?_
         rintro e wg ⟨Au, nu, cu, ji, V, rfl, hi, hbg⟩
         have hgw' := hstf.below.size
         have hstg := (hstf.step hbg).alloc (.cells #[.slice Au nu cu] 26)
         clear hstf hbg
         go_wp2_with fail
         refine (parseWholeAny s _ hstg.laid hs).mono ?_
         rintro e wh ⟨vv, ki, rfl, hk, hbh⟩
         have hsth := hstg.step hbh
         rcases hi with ⟨hi1, hi2, hi3, hi4⟩ | ⟨hi1, hi2⟩
         · subst hi1
           have hu := (Nb.new (w := w) hi3 hgw').step hbh
           have hTu := hu.num.text (by omega)
           rw [← hi2] at hTu
           have hcu := hu.box.1
           have hfu := hu.box.2
           clear hstg hbh hi3 hi2
           rcases hk with ⟨hk1, hk2, hk3⟩ | ⟨hk1, hk2, hk3⟩
           · subst hk1
             have HK := Lib.hid hk3
             clear hk3
             go_wp2_with fail
             refine hTu.mono ?_
             rintro e wi ⟨rfl, hbi⟩
             have hsti := hsth.step hbi
             have hwv := deciWhole vv hk2.1 hk2.2 wi hsti.laid
             rw [← HK.out] at hwv
             clear hsth hu hTu hcu hfu hbi
             go_wp2_with fail
             refine hwv.mono ?_
             rintro e wj ⟨rfl, hbj⟩
             have hstj := hsti.step hbj
             clear hsti hwv hbj
             go_wp2_with fail
             refine (works_any wj hstj.laid).mono ?_
             rintro e wk ⟨rfl, hbk⟩
             have hstk := hstj.step hbk
             clear hstj hbk
             go_wp2_with fail
             go_ret
             exact ⟨rfl, hstk.below⟩
           · subst hk1
             clear hk3
             go_wp2_with fail
             refine hTu.mono ?_
             rintro e wi ⟨rfl, hbi⟩
             have hsti := hsth.step hbi
             clear hsth hu hTu hcu hfu hbi
             go_wp2_with fail
             refine (works_any wi hsti.laid).mono ?_
             rintro e wk ⟨rfl, hbk⟩
             have hstk := hsti.step hbk
             clear hsti hbk
             go_wp2_with fail
             go_ret
             exact ⟨rfl, hstk.below⟩
         · clear hstg hbh
           rcases hk with ⟨hk1, hk2, hk3⟩ | ⟨hk1, hk2, hk3⟩
           · subst hk1
             have hwv := deciWhole vv hk2.1 hk2.2 wh hsth.laid
             rw [← hk3] at hwv
             clear hk3
             go_wp2_with fail
             refine hwv.mono ?_
             rintro e wj ⟨rfl, hbj⟩
             have hstj := hsth.step hbj
             clear hsth hwv hbj
             go_wp2_with fail
             refine (works_any wj hstj.laid).mono ?_
             rintro e wk ⟨rfl, hbk⟩
             have hstk := hstj.step hbk
             clear hstj hbk
             go_wp2_with fail
             go_ret
             exact ⟨rfl, hstk.below⟩
           · subst hk1
             clear hk3
             go_wp2_with fail
             refine (works_any wh hsth.laid).mono ?_
             rintro e wk ⟨rfl, hbk⟩
             have hstk := hsth.step hbk
             clear hsth hbk
             go_wp2_with fail
             go_ret
             exact ⟨rfl, hstk.below⟩)
    clear hK12 hcases
    rcases hgcase with ⟨hg1, hg2⟩ | ⟨hg1, hg2⟩
    · subst hg1 hg2
      go_wp2_with fail
      exact hstc
    · subst hg1
      have hg3 : (0 : Int) < (n2 : Int) := by omega
      go_wp2_with fail
      exact hstc
  have hq5 := hbs5.drew
  clear hbs5
  rcases hdiv with ⟨hy0, he⟩ | ⟨hy0, he, hri, hnumq, hnq⟩
  · subst hy0 he
    go_region
    exact key5 _ _ _ _ _ _ _ _ _ _ _ _ _ _ _ _ _ _ _ _ _ _ _ _ _ _ _ _ _ _ _ _ _ _ _ _ _ _ _ _ _ _ _ _ _ _ _ _ _ _ _ _ _ _ _ _ hq5
  · subst he hri
    have hr1 : NX % y < y := Nat.mod_lt _ hy0
    have hr2 : Hid (NX / y * y + NX % y = NX) := by show _ = _; rw [Nat.mul_comm]; exact Nat.div_add_mod NX y
    have hr3 : ((NX % y : Nat) : Int) < (y : Int) := by omega
    have hy1 : (0 : Int) < (y : Int) := by omega
    have hr4 : ¬ (y ≤ NX % y) := by omega
    have hr5 : ¬ ((y : Int) ≤ ((NX % y : Nat) : Int)) := by omega
    have hqn : Nb w w5.heap.size A5 n5 c5 (NX / y) (w5.alloc (.cells #[.slice A5 n5 c5] 26)).drew := (Nb.new (w := w) hnumq hsW).drew
    generalize NX % y = r at *
    generalize hQ : NX / y = Q at *
    clear hQ hnumq hcase
    have hk1 := hqn.box.1
    have hk2 := hq5.x.box.1
    generalize w5.heap.size = gq at *
    generalize (w5.alloc (.cells #[.slice A5 n5 c5] 26)) = W5 at *
    go_region_held3 (fun w' => w'.cell? ⟨gq, 0, none⟩ = some (.slice A5 n5 c5) ∧ w'.cell? ⟨gx, 0, none⟩ = some (.slice A2 n2 c2)) (first | exact ⟨kq6.box.1, kx6.x.box.1⟩ | exact ⟨kq5.box.1, kx5.x.box.1⟩ | exact ⟨kq4.box.1, kx4.x.box.1⟩ | exact ⟨kq3.box.1, kx3.x.box.1⟩ | exact ⟨kq2.box.1, kx2.x.box.1⟩ | exact ⟨hk1, hk2⟩)
      (first
        | (go_at_call 27
           with_reducible refine (natOf y hy W5.drew).mono ?_
           rintro e v1 ⟨B1, d1, f1, rfl, kn1, kd1, kb1⟩
           have kx2 := hq5.step kb1
           have kq2 := hqn.step kb1)
        | (go_at_call 26
           with_reducible refine (natMul kq2.num kn1 ?ha ?hb).mono ?_
           case ha => omega
           case hb => omega
           rintro e v2 ⟨B2, d2, f2, rfl, kn2, kd2, kb2⟩
           have kx3 := kx2.step kb2
           have kq3 := kq2.step kb2)
        | (go_at_call 27
           with_reducible refine (natOf r (Nat.lt_trans hr1 hy) v2).mono ?_
           rintro e v3 ⟨B3, d3, f3, rfl, kn3, kd3, kb3⟩
           have kx4 := kx3.step kb3
           have kq4 := kq3.step kb3
           have kn2' := kn2.below kb3)
        | (go_at_call 25
           with_reducible refine (natAdd kn2' kn3 ?ha ?hb).mono ?_
           case ha => omega
           case hb => omega
           rintro e v4 ⟨B4, d4, f4, rfl, kn4, kd4, kb4⟩
           have kx5 := kx4.step kb4
           have kq5 := kq4.step kb4)
        | (go_at_call 24
           with_reducible refine (natCmp_z kn4 kx5.x.num (cmpI_eq hr2.out)).mono ?_
           rintro e v5 ⟨rfl, kb5⟩
           have kx6 := kx5.step kb5
           have kq6 := kq5.step kb5))
    exact key5 _ _ _ _ _ _ _ _ _ _ _ _ _ _ _ _ _ _ _ _ _ _ _ _ _ _ _ _ _ _ _ _ _ _ _ _ _ _ _ _ _ _ _ _ _ _ _ _ _ _ _ _ _ _ _ _ kx6
set_option maxRecDepth 100000 in
set_option maxHeartbeats 4000000 in
theorem back_long (A : Option Addr) (n c : Nat) (A' : Option Addr) (n' c' : Nat) (y : Nat) (m : Int) (s : ByteArray) (w : World) (hL : Laid w) (hm : n ≤ maxLen) (hm' : n' ≤ maxLen) (h : ¬ (n ≤ 6 ∧ n' ≤ 6 ∧ s.size ≤ 60)) :
    Calls Tryd.prog 6 #[.slice A n c, .slice A' n' c', .int .u64 y, .int .i64 m, .string s] w fun e w' => e = .returned (.bool true) ∧ Below w.heap.size w w' := by
  unfold maxLen at hm hm'
  have h3 : (6 < n) ∨ (¬ (6 < n) ∧ 6 < n') ∨ (¬ (6 < n) ∧ ¬ (6 < n') ∧ 60 < s.size) := by omega
  clear h
  rcases h3 with h1 | ⟨h1, h2⟩ | ⟨h1, h2, h3⟩
  all_goals
    (go_enter Tryd.func6, Tryd.ntmps6
     go_wp2_with fail
     refine (works_any _ hL).mono ?_
     rintro e w1 ⟨rfl, hb1⟩
     go_wp2_with fail
     go_ret
     exact ⟨rfl, hb1⟩)
end Go.Proofs.YthcglobehoaocaaDoor
