/- Right trees by the landed ast: numbers, names, operators, all names, expressions. -/
import Derived.Test.YtkmioieanopafaaDoorAstO
import Derived.Test.YtkmioieanopafaaDoorAstJ
namespace Go.Proofs.YtkmioieanopafaaDoor
open Go.RowKit

/-- May a number, a name, an operator stand there? -/
def rnum6 (n : Int) (b : Bool) : Bool := if b then num6 n else decide (n = 0)
def rnam6 (x : List UInt8) (b : Bool) : Bool := if b then name6 x else decide (x = [])
def rop6 (o : Int) (b : Bool) (k : Int) : Bool := if b then kn6 o && (one6 o == decide (k = 1)) else decide (o = 0)

set_option maxHeartbeats 1000000 in
theorem astRNumber (n : Int) (b : Bool) (w : World) : Calls Tryd.prog 85 #[.int .i64 n, .bool b] w fun e w' => e = .returned (.bool (rnum6 n b)) ∧ w' = w := by
  by_cases h0 : n = 0
  · have hv : Hid (rnum6 n b = true) := by show rnum6 n b = true; subst h0; cases b <;> simp [rnum6, num6]
    subst h0
    go_enter Tryd.func85, Tryd.ntmps85
    go_wp2_with fail
    go_ret
    exact ⟨by rw [hv.out]; rfl, rfl⟩
  · have e0 : (n == 0) = false := by simpa using h0
    cases b with
    | false =>
      have hv : Hid (rnum6 n false = false) := by show rnum6 n false = false; simp [rnum6, h0]
      go_enter Tryd.func85, Tryd.ntmps85
      go_wp2_with fail
      go_ret
      exact ⟨by rw [hv.out]; rfl, rfl⟩
    | true =>
      by_cases h1 : 0 < n
      · have hv : Hid (rnum6 n true = true) := by show rnum6 n true = true; simp [rnum6, num6]; omega
        go_enter Tryd.func85, Tryd.ntmps85
        go_wp2_with fail
        go_ret
        exact ⟨by rw [hv.out]; first | rfl | simp [*], rfl⟩
      · by_cases h2 : n = -9223372036854775808
        · have hv : Hid (rnum6 n true = true) := by show rnum6 n true = true; simp [rnum6, num6]; omega
          subst h2
          go_enter Tryd.func85, Tryd.ntmps85
          go_wp2_with fail
          go_ret
          exact ⟨by rw [hv.out]; first | rfl | simp [*], rfl⟩
        · have hv : Hid (rnum6 n true = false) := by show rnum6 n true = false; simp [rnum6, num6]; omega
          have e2 : (n == -9223372036854775808) = false := by simpa using h2
          go_enter Tryd.func85, Tryd.ntmps85
          go_wp2_with fail
          go_ret
          exact ⟨by rw [hv.out]; first | rfl | simp [*], rfl⟩

set_option maxHeartbeats 1000000 in
theorem astRName (x : List UInt8) (b : Bool) (hs : x.length ≤ 4611686018427387904) (w : World) (hL : LaidW w) : Calls Tryd.prog 87 #[.string ⟨x.toArray⟩, .bool b] w fun e w' => e = .returned (.bool (rnam6 x b)) ∧ Below w.heap.size w w' := by
  cases b with
  | true =>
    have hq := astName x hs w hL
    have hv : Hid (rnam6 x true = name6 x) := rfl
    rw [hv.out]
    generalize name6 x = v at *
    go_enter Tryd.func87, Tryd.ntmps87
    go_wp2_with fail
    refine hq.mono ?_
    rintro e w1 ⟨rfl, hb⟩
    go_wp2_with fail
    go_ret
    exact ⟨rfl, hb⟩
  | false =>
    by_cases h : x = []
    · have hv : Hid (rnam6 x false = true) := by show rnam6 x false = true; simp [rnam6, h]
      have e1 := empty_t h
      generalize (⟨x.toArray⟩ : ByteArray) = s at *
      clear h
      go_enter Tryd.func87, Tryd.ntmps87
      go_wp2_with fail
      go_ret
      exact ⟨by rw [hv.out]; rfl, Below.refl _ _⟩
    · have hv : Hid (rnam6 x false = false) := by show rnam6 x false = false; simp [rnam6, h]
      have e1 := empty_f h
      generalize (⟨x.toArray⟩ : ByteArray) = s at *
      clear h
      go_enter Tryd.func87, Tryd.ntmps87
      go_wp2_with fail
      go_ret
      exact ⟨by rw [hv.out]; rfl, Below.refl _ _⟩

set_option maxHeartbeats 1000000 in
theorem astROp (o : Int) (b : Bool) (k : Int) (w : World) : Calls Tryd.prog 104 #[.int .i64 o, .bool b, .int .i64 k] w fun e w' => e = .returned (.bool (rop6 o b k)) ∧ w' = w := by
  cases b with
  | true =>
    have q1 := astKnown o w
    have q2 := astOne o w
    cases h1 : kn6 o with
    | false =>
      have hv : Hid (rop6 o true k = false) := by show rop6 o true k = false; simp [rop6, h1]
      rw [h1] at q1
      go_enter Tryd.func104, Tryd.ntmps104
      go_wp2_with fail
      refine q1.mono ?_
      rintro e w1 ⟨rfl, rfl⟩
      go_wp2_with fail
      go_ret
      exact ⟨by rw [hv.out]; rfl, rfl⟩
    | true =>
      have hv : Hid (rop6 o true k = (one6 o == decide (k = 1))) := by show rop6 o true k = (one6 o == decide (k = 1)); simp [rop6, h1]
      have hv2 : Hid (rop6 o true k = (one6 o == (k == 1))) := by show rop6 o true k = (one6 o == (k == 1)); rw [hv.out]; congr 1
      rw [h1] at q1
      rw [hv2.out]
      generalize one6 o = v at *
      obtain ⟨u, hu⟩ : ∃ u, u = (k == 1) := ⟨_, rfl⟩
      rw [← hu]
      have hu2 : (k == 1) = u := hu.symm
      clear hu hv hv2 h1
      obtain ⟨r, hr⟩ : ∃ r, r = (v == u) := ⟨_, rfl⟩
      rw [← hr]
      have hr2 : (v == u) = r := hr.symm
      clear hr
      go_enter Tryd.func104, Tryd.ntmps104
      go_wp2_with fail
      refine q1.mono ?_
      rintro e w1 ⟨rfl, rfl⟩
      go_wp2_with fail
      refine q2.mono ?_
      rintro e w1 ⟨rfl, rfl⟩
      go_wp2_with fail
      go_ret
      exact ⟨rfl, rfl⟩
  | false =>
    by_cases h : o = 0
    · have hv : Hid (rop6 o false k = true) := by show rop6 o false k = true; simp [rop6, h]
      subst h
      go_enter Tryd.func104, Tryd.ntmps104
      go_wp2_with fail
      go_ret
      exact ⟨by rw [hv.out]; rfl, rfl⟩
    · have hv : Hid (rop6 o false k = false) := by show rop6 o false k = false; simp [rop6, h]
      have e0 : (o == 0) = false := by simpa using h
      go_enter Tryd.func104, Tryd.ntmps104
      go_wp2_with fail
      go_ret
      exact ⟨by rw [hv.out]; rfl, rfl⟩

set_option maxHeartbeats 1000000 in
theorem astAllT {A : Option Addr} {n c : Nat} {r : List (List UInt8)} {w : World} (h : RowS w A n r) (hn : pbk r ≤ 4000000) (hL : LaidW w) :
    Calls Tryd.prog 86 #[.slice A n c, .func (.func 21) #[] #[]] w fun e w' => e = .returned (.bool (r.all name6)) ∧ Below w.heap.size w w' := by
  obtain ⟨b, hb⟩ : ∃ b, b = r.all name6 := ⟨_, rfl⟩
  rw [← hb]
  have HB := Lib.hid hb
  clear hb
  have hl := Lib.hid h.len
  have hp := pbk_len r
  have hnn : n ≤ 4000000 := by rw [hl.out]; omega
  have HP := Lib.hid hn
  have HR := Lib.hid h
  have HLD := Lib.hid hL
  clear hp hn h hL
  go_enter Tryd.func86, Tryd.ntmps86
  go_wp2_with fail
  go_loopw [9] (fun v W => ∃ i : Nat, i ≤ n ∧ v = .int .i64 i ∧ Hid (∀ j : Nat, j < i → ∀ t, r[j]? = some t → name6 t = true) ∧ Hid (Below w.heap.size w W)) (fun v _ => n - (intOf v).toNat)
  case atStart => exact ⟨0, by omega, rfl, fun j hj => absurd hj (by omega), Below.refl _ _⟩
  case round =>
    obtain ⟨i, hi, rfl, hst, hbw⟩ := hrel
    by_cases hlt : i < n
    · obtain ⟨ad, t, rfl, ht, hc1⟩ := (HR.out.below hbw.out).at_ hlt
      have hlt' : (i : Int) < n := by omega
      have hq := astName t (by have := pbk_get ht; have := HP.out; omega) wr (HLD.out.step hbw.out)
      have HT := Lib.hid ht
      clear ht
      generalize (⟨t.toArray⟩ : ByteArray) = s at *
      go_wp2_with fail
      refine hq.mono ?_
      rintro e w1 ⟨rfl, hb1⟩
      clear hq
      cases hv : name6 t with
      | true =>
        have hst2 : Hid (∀ j : Nat, j < i + 1 → ∀ t, r[j]? = some t → name6 t = true) := fun j hj t' ht' => by
          rcases Nat.lt_or_ge j i with h | h
          · exact hst.out j h t' ht'
          · obtain rfl : j = i := by omega
            have := HT.out.symm.trans ht'
            injection this with this
            rw [← this]; exact hv
        clear hst hv
        go_wp2_with fail
        exact ⟨⟨i + 1, by omega, by go_num, hst2, bth5 hbw.out hb1⟩, by simp [intOf]; omega⟩
      | false =>
        have hvv : Hid (b = false) := by show b = false; rw [HB.out]; exact all_no HT.out hv
        clear hst hv
        go_wp2_with fail
        go_ret
        exact ⟨by rw [hvv.out]; rfl, bth5 hbw.out hb1⟩
    · obtain rfl : i = n := by omega
      have hlt' : ¬ (i : Int) < i := by omega
      have hvv : Hid (b = true) := by
        show b = true
        rw [HB.out]
        exact all_yes fun j a hj ha => hst.out j (by rw [hl.out]; exact hj) a ha
      clear hst
      go_wp2_with fail
      go_ret
      exact ⟨by rw [hvv.out]; rfl, hbw.out⟩

/-- The table of an expression's parts. -/
def xparts : List Value := [.bool true, .bool false, .bool false, .int .i64 0, .bool false, .bool true, .bool false, .int .i64 0, .bool false, .bool true, .bool false, .int .i64 1, .bool false, .bool false, .bool true, .int .i64 1, .bool false, .bool false, .bool true, .int .i64 2]
def sparts : List Value := [.bool true, .bool false, .bool false, .int .i64 1, .bool true, .bool false, .bool false, .int .i64 2, .bool false, .bool true, .bool true, .int .i64 1, .bool false, .bool true, .bool false, .int .i64 1, .bool false, .bool false, .bool false, .int .i64 1, .bool true, .bool false, .bool false, .int .i64 (-1), .bool false, .bool false, .bool false, .int .i64 0]
def dparts : List Value := [.bool true, .bool false, .bool false, .bool true, .bool false, .bool false, .bool false, .bool false, .bool false, .bool false, .bool true, .bool false, .bool false, .bool false, .bool true]
/-- All tables of the landed ast. -/
structure LaidA (w : World) : Prop where
  words : LaidW w
  x : Tab w 5 xparts
  s : Tab w 4 sparts
  d : Tab w 3 dparts
theorem LaidA.step {w w' : World} (h : LaidA w) (hb : Below w.heap.size w w') : LaidA w' := ⟨h.words.step hb, h.x.step hb, h.s.step hb, h.d.step hb⟩

/-- An expression's row of the table. -/
theorem xrow (w : World) (hL : LaidA w) (n : Int) (x : List UInt8) (o : Int) (m : Nat) (k : Nat) (hk : k < 5) : ∃ (nb nm op : Bool) (ar : Nat), ar < 3 ∧ w.cell? ⟨5, k * 4, none⟩ = some (.bool nb) ∧ w.cell? ⟨5, k * 4 + 1, none⟩ = some (.bool nm) ∧ w.cell? ⟨5, k * 4 + 2, none⟩ = some (.bool op) ∧ w.cell? ⟨5, k * 4 + 3, none⟩ = some (.int .i64 (ar : Int)) ∧ okX (k : Int) n x o m = (rnum6 n nb && (rnam6 x nm && (rop6 o op ar && decide (m = ar)))) := by
  have hn6 : num6 0 = true := by simp [num6]
  obtain rfl | rfl | rfl | rfl | rfl : k = 0 ∨ k = 1 ∨ k = 2 ∨ k = 3 ∨ k = 4 := by omega
  · refine ⟨true, false, false, 0, by omega, hL.x.cell rfl, hL.x.cell rfl, hL.x.cell rfl, hL.x.cell rfl, ?_⟩
    unfold okX rnum6 rnam6 rop6
    rw [Bool.eq_iff_iff]
    simp
    constructor <;> (intro h; simp_all)
  · refine ⟨false, true, false, 0, by omega, hL.x.cell rfl, hL.x.cell rfl, hL.x.cell rfl, hL.x.cell rfl, ?_⟩
    unfold okX rnum6 rnam6 rop6
    rw [Bool.eq_iff_iff]
    simp
    constructor <;> (intro h; simp_all)
  · refine ⟨false, true, false, 1, by omega, hL.x.cell rfl, hL.x.cell rfl, hL.x.cell rfl, hL.x.cell rfl, ?_⟩
    unfold okX rnum6 rnam6 rop6
    rw [Bool.eq_iff_iff]
    simp
    constructor <;> (intro h; simp_all)
  · refine ⟨false, false, true, 1, by omega, hL.x.cell rfl, hL.x.cell rfl, hL.x.cell rfl, hL.x.cell rfl, ?_⟩
    unfold okX rnum6 rnam6 rop6 kn6 one6
    rw [Bool.eq_iff_iff]
    simp
    constructor <;> (intro h; simp_all; try omega)
  · refine ⟨false, false, true, 2, by omega, hL.x.cell rfl, hL.x.cell rfl, hL.x.cell rfl, hL.x.cell rfl, ?_⟩
    unfold okX rnum6 rnam6 rop6 kn6 one6
    rw [Bool.eq_iff_iff]
    simp
    constructor <;> (intro h; simp_all; try omega)
end Go.Proofs.YtkmioieanopafaaDoor
