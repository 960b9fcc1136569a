/- deci's putRow: a row's digits, put by deferred calls. -/
import Derived.Test.YthcglobehoaocaaDoorDeciB
namespace Go.Proofs.YthcglobehoaocaaDoor
open Go.RowKit

/-- The digit c, put by a deferred call. -/
def putD (b : Nat) (d : UInt8) : Deferred := { target := .fn (.func 69) #[], args := #[.pointer (some ⟨b, 0, none⟩), .int .u8 (d.toNat : Int)] }

/-- The j digits at the right, the last one behind. -/
def digs (x : Nat) : Nat → List UInt8
  | 0 => []
  | j + 1 => UInt8.ofNat (48 + x / 10 ^ j % 10) :: digs x j
theorem digs_length (x j : Nat) : (digs x j).length = j := by induction j with | zero => rfl | succ j ih => simp [digs, ih]

/-- A builder that the call has made, in use. -/
def Bld (B b : Nat) (l : List UInt8) (w : World) : Prop := Lib.IsBuilderF 67 5 B b (Lib.byteCells l) w

theorem leaves_put {fn : Func} {tmps : Array Value} {R : Ending → World → Prop} (B b : Nat) (hres : ∀ w, (results fn tmps).run Tryd.prog w = .ok (.tuple #[]) w) : ∀ (bs acc : List UInt8) (w : World), Bld B b acc w → acc.length + bs.length ≤ 140737488355328 → B ≤ w.heap.size →
    (∀ w', Bld B b (acc ++ bs) w' → Below B w w' → R (.returned (.tuple #[])) w') → Leaves Tryd.prog fn tmps R (bs.map (putD b)) .returning w := by
  intro bs
  induction bs with
  | nil =>
    intro acc w h _ _ hR
    exact ⟨_, hres w, hR w (by simpa using h) (Below.refl _ _)⟩
  | cons d bs ih =>
    intro acc w h hl hB hR
    simp only [List.length_cons] at hl
    refine leaves_cons (f := 69) (args := #[.pointer (some ⟨b, 0, none⟩), .int .u8 (d.toNat : Int)]) (by simp) (by simp [go_sem]) ?_
    refine (writeByte_deferred B b (Lib.byteCells acc) (d.toNat : Int) .returning w h (by rw [Lib.byteCells_length]; omega) hB).mono ?_
    rintro e u' w' ⟨rfl, rfl, h', hb', hk'⟩
    have hb2 : Bld B b (acc ++ [d]) w' := Or.inr (by simpa [Lib.byteCells] using h')
    refine ih (acc ++ [d]) w' hb2 (by simp; omega) (Nat.le_trans hB hb'.size) fun w'' h'' hb'' => hR w'' (by simpa using h'') (hb'.trans hb'')

theorem put_facts (x j : Nat) (hx : x < LB) : ∃ d : UInt8, d = UInt8.ofNat (48 + x / 10 ^ j % 10) ∧ 48 + ((x / 10 ^ j : Nat) : Int) % 10 = (d.toNat : Int) ∧ IntKind.u64.wrap (((x / 10 ^ j : Nat) : Int).tdiv 10) = ((x / 10 ^ (j + 1) : Nat) : Int) := by
  have h1 := Nat.div_le_self x (10 ^ j)
  refine ⟨_, rfl, ?_, ?_⟩
  · have e : (UInt8.ofNat (48 + x / 10 ^ j % 10)).toNat = 48 + x / 10 ^ j % 10 := by
      simp only [UInt8.toNat_ofNat']
      omega
    rw [e]
    omega
  · rw [Nat.pow_succ, ← Nat.div_div_eq_div_mul]
    generalize x / 10 ^ j = y at *
    exact wrapN (y / 10) (by omega)

set_option maxHeartbeats 1000000 in
theorem putRow_body (R : Ending → World → Prop) (B b x K : Nat) (width : Int) (acc : List UInt8) (w : World) (hx : x < LB) (hw0 : 0 ≤ width) (hw1 : width ≤ 1000) (hK : K ≤ 1000) (hk : ∀ j : Nat, j < K ↔ ((j : Int) < width ∨ 0 < x / 10 ^ j))
    (h : Bld B b acc w) (hl : acc.length + K ≤ 140737488355328) (hB : B ≤ w.heap.size) (hR : ∀ w', Bld B b (acc ++ digs x K) w' → Below B w w' → R (.returned (.tuple #[])) w') :
    ∃ c, Tryd.f56.body = some c ∧ c.wp Tryd.prog (bodyPostD Tryd.prog Tryd.f56 R) { tmps := #[.pointer (some ⟨b, 0, none⟩), .int .u64 (x : Int), .int .i64 width] ++ Array.replicate (Tryd.f56.ntmps - 3) undef, defers := [] } w := by
  refine ⟨_, rfl, ?_⟩
  simp only [Tryd.ntmps56, Nat.reduceSub, Array.replicate_succ, Array.replicate_zero, List.push_toArray, List.append_toArray, List.nil_append, List.cons_append]
  go_wp2_with fail
  refine wp_loop (fun a' w' => ∃ (j : Nat) (xi v7 v8 v9 v10 v11 v12 v13 v14 v15 v16 v17 v18 v19 v20 v21 v22 : Value), j ≤ K ∧ w' = w ∧ xi = .int .u64 ((x / 10 ^ j : Nat) : Int) ∧ a' = { tmps := #[.pointer (some ⟨b, 0, none⟩), xi, .int .i64 width, undef, undef, undef, .int .i64 (j : Int), v7, v8, v9, v10, v11, v12, v13, v14, v15, v16, v17, v18, v19, v20, v21, v22], defers := (digs x j).map (putD b) })
    (fun a' _ => K - (intOf (a'.tmps.getD 6 undef)).toNat) ⟨0, .int .u64 (x : Int), _, _, _, _, _, _, _, _, _, _, _, _, _, _, _, _, by omega, rfl, by simp, rfl⟩ ?_
  rintro a' w' ⟨j, xi, v7, v8, v9, v10, v11, v12, v13, v14, v15, v16, v17, v18, v19, v20, v21, v22, hj, rfl, rfl, rfl⟩
  obtain ⟨d, hd, f1, f2⟩ := put_facts x j hx
  have hkj := hk j
  have hdefs : Hid (putD b d :: (digs x j).map (putD b) = (digs x (j + 1)).map (putD b)) := by show _ = _; rw [hd]; rfl
  have HR := Lib.hid hR
  have Hh := Lib.hid h
  obtain ⟨yi, hyi⟩ : ∃ yi : Int, yi = ((x / 10 ^ j : Nat) : Int) := ⟨_, rfl⟩
  obtain ⟨zi, hzi⟩ : ∃ zi : Int, zi = ((x / 10 ^ (j + 1) : Nat) : Int) := ⟨_, rfl⟩
  obtain ⟨di, hdi⟩ : ∃ di : Int, di = (d.toNat : Int) := ⟨_, rfl⟩
  rw [← hyi] at f1 f2 ⊢
  rw [← hzi] at f2
  rw [← hdi] at f1
  have hpos : 0 < x / 10 ^ j ↔ 0 < yi := by rw [hyi]; exact ⟨fun h => Int.natCast_pos.2 h, fun h => Int.natCast_pos.1 h⟩
  rw [hpos] at hkj
  have hyi0 : 0 ≤ yi := by rw [hyi]; exact Int.natCast_nonneg _
  have HZ : Hid (zi = (x : Int) / 10 ^ (j + 1)) := by show _ = _; rw [hzi, Int.natCast_ediv, Int.natCast_pow]; rfl
  have HZ' : Hid (Value.int .u64 zi = Value.int .u64 ((x / 10 ^ (j + 1) : Nat) : Int)) := by show _ = _; rw [hzi]
  have HD := Lib.hid hdi
  have Hd := Lib.hid hd
  clear hd hyi hzi hdi hpos hk hR h
  have hdefs2 : Hid (({ target := .fn (.func 69) #[], args := #[.pointer (some ⟨b, 0, none⟩), .int .u8 di] } : Deferred) :: (digs x j).map (putD b) = (digs x (j + 1)).map (putD b)) := by
    show _ = _
    rw [← hdefs.out, HD.out]
    rfl
  clear hdefs
  by_cases hc : j < K
  · have hsplit : (j : Int) < width ∨ (¬ (j : Int) < width ∧ 0 < yi) := by have := hkj.1 hc; omega
    have hmeas : Hid (K - (intOf (.int .i64 ((j : Int) + 1))).toNat < K - (intOf (.int .i64 (j : Int))).toNat) := by
      show K - ((j : Int) + 1).toNat < K - ((j : Int)).toNat
      omega
    have hj1 : (j : Int) < 1000 := by omega
    clear hkj hx hK hl hB hw0
    rcases hsplit with h1 | ⟨h1, h2⟩
    · go_wp2_with fail
      exact ⟨⟨j + 1, .int .u64 zi, _, _, _, _, _, _, _, _, _, _, _, _, _, _, _, _, hc, trivial, HZ'.out, by rw [← hdefs2.out]; rfl⟩, hmeas.out⟩
    · go_wp2_with fail
      exact ⟨⟨j + 1, hc, ⟨HZ.out, rfl⟩, hdefs2.out⟩, hmeas.out⟩
  · obtain rfl : j = K := by omega
    have h1 : ¬ (j : Int) < width := by intro h; exact hc (hkj.2 (.inl h))
    have h2 : yi = 0 := by
      have : ¬ 0 < yi := fun h => hc (hkj.2 (.inr h))
      omega
    clear hkj hyi0 HZ f1 f2 HD hdefs2
    subst h2
    go_wp2_with fail
    exact leaves_put B b (fun w => results_none rfl _ _ _) (digs x j) acc w' Hh.out (by rw [digs_length]; exact hl) hB HR.out

theorem putRow (B b x K : Nat) (width : Int) (acc : List UInt8) (w : World) (hx : x < LB) (hw0 : 0 ≤ width) (hw1 : width ≤ 1000) (hK : K ≤ 1000) (hk : ∀ j : Nat, j < K ↔ ((j : Int) < width ∨ 0 < x / 10 ^ j))
    (h : Bld B b acc w) (hl : acc.length + K ≤ 140737488355328) (hB : B ≤ w.heap.size) :
    Calls Tryd.prog 56 #[.pointer (some ⟨b, 0, none⟩), .int .u64 (x : Int), .int .i64 width] w fun e w' => e = .returned (.tuple #[]) ∧ Bld B b (acc ++ digs x K) w' ∧ Below B w w' := by
  obtain ⟨c, hc, hwp⟩ := putRow_body (fun e w' => e = .returned (.tuple #[]) ∧ Bld B b (acc ++ digs x K) w' ∧ Below B w w') B b x K width acc w hx hw0 hw1 hK hk h hl hB (fun w' h1 h2 => ⟨rfl, h1, h2⟩)
  exact calls_of_wp_defers Tryd.func56 hc hwp
theorem putRow_deferred (B b x K : Nat) (width : Int) (acc : List UInt8) (u : FrameMode) (w : World) (hx : x < LB) (hw0 : 0 ≤ width) (hw1 : width ≤ 1000) (hK : K ≤ 1000) (hk : ∀ j : Nat, j < K ↔ ((j : Int) < width ∨ 0 < x / 10 ^ j))
    (h : Bld B b acc w) (hl : acc.length + K ≤ 140737488355328) (hB : B ≤ w.heap.size) :
    CallsD Tryd.prog 56 #[.pointer (some ⟨b, 0, none⟩), .int .u64 (x : Int), .int .i64 width] u w fun e u' w' => u' = u ∧ (e = .returned (.tuple #[]) ∧ Bld B b (acc ++ digs x K) w' ∧ Below B w w') := by
  obtain ⟨c, hc, hwp⟩ := putRow_body (fun e w' => e = .returned (.tuple #[]) ∧ Bld B b (acc ++ digs x K) w' ∧ Below B w w') B b x K width acc w hx hw0 hw1 hK hk h hl hB (fun w' h1 h2 => ⟨rfl, h1, h2⟩)
  exact callsD_of_wp_defers Tryd.func56 hc hwp
end Go.Proofs.YthcglobehoaocaaDoor
