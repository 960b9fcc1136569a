/- The contracts of the reference's Text and Whole. -/
import Derived.Test.YthcglobehoaocaaDoorRefH
import Derived.Test.YthcglobehoaocaaDoorDeciE
import Derived.Lib.ItoaMem
import Derived.Laws.IdiomStrings
import Derived.Deep.RegionWith
namespace Go.Proofs.YthcglobehoaocaaDoor
open Go.RowKit

theorem RNum.lt {w : World} {b n c N : Nat} {A : Option Addr} (h : RNum w b A n c N) : N < 256 ^ n := by
  obtain ⟨l, h1, h2, h3, h4, h5, h6, h7⟩ := h
  rw [← h4, h1.len]
  exact Dig.val_lt h3
theorem RNum.zero_iff {w : World} {b n c N : Nat} {A : Option Addr} (h : RNum w b A n c N) : n = 0 ↔ N = 0 := by
  obtain ⟨l, h1, h2, h3, h4, h5, h6, h7⟩ := h
  have hl := h1.len
  have := Dig.len_le_iff (by omega) h2 h3 0
  rw [h4, ← hl] at this
  simp only [Nat.pow_zero] at this
  omega
theorem RNum.len_le {w : World} {b n c N k : Nat} {A : Option Addr} (h : RNum w b A n c N) (hN : N < 256 ^ k) : n ≤ k := by
  obtain ⟨l, h1, h2, h3, h4, h5, h6, h7⟩ := h
  have hl := h1.len
  have := Dig.len_le_iff (by omega) h2 h3 k
  rw [h4, ← hl] at this
  exact this.2 hN

theorem oneByte (z : Int) (ch : UInt8) (hz : z = (ch.toNat : Int)) (W : World) (g : Nat) (hc : W.cell? ⟨g, 0, none⟩ = some (.int .u8 z)) :
    (Go.convert 29 9 (.slice (some ⟨g, 0, none⟩) 1 1)).run Tryd.prog W = .ok (.string ⟨#[ch]⟩) W := by
  refine run_convert_bytes_back (P := Tryd.prog) W 29 9 5 ⟨g, 0, none⟩ 1 [ch] Tryd.underlying29 Tryd.underlying5 Tryd.underlying9 (fun j hj => ?_)
  obtain rfl : j = 0 := by simp at hj; omega
  simp [Addr.add, hc, hz]
theorem oneByte_new (z : Int) (ch : UInt8) (hz : z = (ch.toNat : Int)) (W : World) :
    (Go.convert 29 9 (.slice (some ⟨W.heap.size, 0, none⟩) 1 1)).run Tryd.prog (W.alloc (.cells #[.int .u8 z] 5)) = .ok (.string ⟨#[ch]⟩) (W.alloc (.cells #[.int .u8 z] 5)) :=
  oneByte z ch hz _ _ (by simp [go_sem])

set_option maxHeartbeats 1000000 in
theorem refText : ∀ (N : Nat) {A : Option Addr} {n c b : Nat} {w : World}, RNum w b A n c N → n ≤ 1000 →
    Calls Tryd.prog 15 #[.slice A n c] w fun e w' => e = .returned (.string ⟨(Lib.decDigits N).toArray⟩) ∧ Below w.heap.size w w' := by
  intro N
  induction N using Nat.strongRecOn with
  | _ N ih =>
  intro A n c b w h hn
  by_cases h0 : n = 0
  · subst h0
    have hN : N = 0 := h.zero_iff.1 rfl
    subst hN
    have ht : Hid (⟨(Lib.decDigits 0).toArray⟩ = (⟨#[48]⟩ : ByteArray)) := by show _ = _; rw [Lib.decDigits_one (by omega)]; rfl
    go_enter Tryd.func15, Tryd.ntmps15
    go_wp2_with fail
    go_ret
    exact ⟨by rw [ht.out]; rfl, Below.refl _ _⟩
  · have hNp : N ≠ 0 := fun e => h0 (h.zero_iff.2 e)
    have hm : N % 10 < 10 := Nat.mod_lt _ (by omega)
    obtain ⟨m, hme⟩ : ∃ m, m = N % 10 := ⟨_, rfl⟩
    have hq := refDiv 10 h (by omega) (by unfold LB; omega) (by omega)
    rw [← hme] at hq hm
    obtain ⟨ch, hch⟩ : ∃ ch : UInt8, ch = UInt8.ofNat (48 + m) := ⟨_, rfl⟩
    obtain ⟨z, hz⟩ : ∃ z : Int, z = (ch.toNat : Int) := ⟨_, rfl⟩
    have hzm : z = 48 + (m : Int) := by rw [hz, hch]; simp; omega
    obtain ⟨s1, hs1⟩ : ∃ s1 : ByteArray, s1 = ⟨#[ch]⟩ := ⟨_, rfl⟩
    obtain ⟨sD, hsD⟩ : ∃ sD : ByteArray, sD = ⟨(Lib.decDigits (N / 10)).toArray⟩ := ⟨_, rfl⟩
    obtain ⟨sN, hsN⟩ : ∃ sN : ByteArray, sN = ⟨(Lib.decDigits N).toArray⟩ := ⟨_, rfl⟩
    have hbig : Hid (¬ N < 10 → sN = sD ++ s1) := by
      intro hh
      rw [hsN, hsD, hs1, Lib.decDigits, dif_neg hh, ← hme, ← hch]
      apply ByteArray.ext
      simp
    have hsml : Hid (N < 10 → sN = s1) := by
      intro hh
      rw [hsN, hs1, Lib.decDigits_one hh, hch, hme, Nat.mod_eq_of_lt hh]
    have hlt : Hid (N < 256 ^ n) := h.lt
    have hno : ¬ (9223372036854775807 < sD.size + s1.size) := by
      have h1 := nDigits_lt (N := N / 10) (n := n) (Nat.lt_of_le_of_lt (Nat.div_le_self _ _) (Nat.lt_of_lt_of_le h.lt (Nat.pow_le_pow_left (by unfold LB; omega) _))) hn
      rw [hsD, hs1, size_list, Lib.decDigits_length]
      have h2 : (⟨#[ch]⟩ : ByteArray).size = 1 := rfl
      omega
    have hadd := fun w => run_string_add_sum (P := Tryd.prog) w sD s1 (by omega)
    clear hno
    have hcv := fun W => oneByte_new z ch hz W
    have hcv2 := fun W g => oneByte z ch hz W g
    rw [← hs1] at hcv hcv2
    have HD := Lib.hid hsD
    rw [← hsN]
    have hw : IntKind.u64.wrap (48 + (m : Int)) = z := by rw [IntKind.wrap_u64]; omega
    have hw8 : IntKind.u8.wrap z = z := by rw [IntKind.wrap_u8]; omega
    have HZ := Lib.hid hz
    have HS := Lib.hid hs1
    clear hz hch hzm hs1 hsD hsN
    clear hme h
    go_enter Tryd.func15, Tryd.ntmps15
    go_wp2_with fail
    refine hq.mono ?_
    rintro e w1 ⟨A1, n1, c1, rfl, hnum1, hn1, hb1⟩
    clear hq
    by_cases h1 : n1 = 0
    · subst h1
      have hz := hnum1.zero_iff.1 rfl
      have hs := hsml.out (by omega)
      go_wp2_with fail
      go_ret
      exact ⟨by rw [hs]; rfl, hb1.alloc hb1.size _⟩
    · have hnz : ¬ N < 10 := by intro hh; exact h1 (hnum1.zero_iff.2 (by omega))
      have hs := hbig.out hnz
      have hlen := hnum1.len_le (k := n) (Nat.lt_of_le_of_lt (Nat.div_le_self _ _) hlt.out)
      have hT := fun W (hb : Below w1.heap.size w1 W) => ih (N / 10) (by omega) (hnum1.below hb) (by omega)
      rw [← HD.out] at hT
      go_wp2_with fail
      have hT1 := hT w1.drew (Below.refl _ _).drew
      have hT2 := hT (w1.alloc (.cells #[.int .u8 z] 5)).drew ((Below.refl _ _).alloc (Nat.le_refl _) _).drew
      have hb1a := hb1.alloc hb1.size (.cells #[.int .u8 z] 5)
      have hs1 := hb1.size
      clear hT hcv2 ih
      have hcv2 := fun W => oneByte_new z ch HZ.out W
      have hcv3 := fun (W : World) => oneByte z ch HZ.out (W.alloc (.cells #[.int .u8 z] 5)).drew W.heap.size (by simp [go_sem])
      have hcvF := fun (W : World) g => oneByte z ch HZ.out W g
      rw [← HS.out] at hcv2 hcv3 hcvF
      have HCV := Lib.hid hcvF
      clear hcvF
      go_region_with
        (first
          | (go_at_call 15
             with_reducible refine hT1.mono ?_
             rintro e w2 ⟨rfl, hb2⟩
             have hfin := Lib.hid (hb1.drew.trans (hb2.mono hs1)))
          | (go_at_call 15
             with_reducible refine hT2.mono ?_
             rintro e w2 ⟨rfl, hb2⟩
             have hfin := Lib.hid (hb1a.drew.trans (hb2.mono (by show _ ≤ (w1.alloc _).heap.size; simp; omega)))
             have kx := hb2.cell (p := ⟨w1.heap.size, 0, none⟩) (by show w1.heap.size < (w1.alloc _).heap.size; simp)
             have hcv4 := HCV.out w2 w1.heap.size (kx.trans (by simp [go_sem]))))
      all_goals
        (go_wp2_with fail
         go_ret
         exact ⟨by rw [hs]; rfl, by first | exact hfin.out | exact hfin.out.alloc hfin.out.size _⟩)

set_option maxHeartbeats 400000 in
theorem refWhole (n : Int) (h0 : -9223372036854775808 ≤ n) (h1 : n ≤ 9223372036854775807) (w : World) :
    Calls Tryd.prog 19 #[.int .i64 n] w fun e w' => e = .returned (.string ⟨(Lib.itoa n).toArray⟩) ∧ Below w.heap.size w w' := by
  have hrow : ∀ (w : World) (x : Nat), Row (w.alloc (.cells #[.int .u64 x] 23)) (w.alloc (.cells #[.int .u64 x] 23)).heap.size .u64 (some ⟨w.heap.size, 0, none⟩) 1 [x] := fun w x =>
    ⟨by simp [ints], fun _ => ⟨_, rfl, by simp, fun j u hu => by
      match j with
      | 0 => simp [ints] at hu; subst hu; simp [Addr.add]
      | j + 1 => simp [ints] at hu⟩⟩
  obtain ⟨u, hu⟩ : ∃ u : Nat, u = n.natAbs := ⟨_, rfl⟩
  have hul : u < LB := by unfold LB; omega
  have hbl : Dig.Below LB [u] := Dig.Below.cons hul (Dig.Below.nil _)
  have hval : Dig.val LB [u] = u := by simp [Dig.val]
  have hof := fun w => refOf (some ⟨w.heap.size, 0, none⟩) 1 1 [u] (w.alloc (.cells #[.int .u64 u] 23)) (hrow w u) hbl (by omega)
  rw [hval] at hof
  clear hrow hval hbl
  obtain ⟨ui, hui⟩ : ∃ ui : Int, ui = (u : Int) := ⟨_, rfl⟩
  rw [← hui] at hof
  obtain ⟨sU, hsU⟩ : ∃ sU : ByteArray, sU = ⟨(Lib.decDigits u).toArray⟩ := ⟨_, rfl⟩
  obtain ⟨sN, hsN⟩ : ∃ sN : ByteArray, sN = ⟨(Lib.itoa n).toArray⟩ := ⟨_, rfl⟩
  rw [← hsN]
  by_cases hneg : n < 0
  · have hs : Hid (sN = ⟨#[45]⟩ ++ sU) := by
      show _ = _
      have hn : n = -(u : Int) := by omega
      rw [hsN, hsU, hn, Lib.itoa_neg u (by omega)]
      apply ByteArray.ext
      simp
    have hadd : ∀ w, (Go.Op.stringOp .add ⟨#[45]⟩ sU).run Tryd.prog w = .ok (.string (⟨#[45]⟩ ++ sU)) w := fun w => run_string_add_sum (P := Tryd.prog) w _ sU (by
      have h2 : (⟨#[45]⟩ : ByteArray).size = 1 := rfl
      rw [h2, hsU, size_list, Lib.decDigits_length]
      have := nDigits_lt (N := u) (n := 1) (by simpa using hul) (by omega)
      omega)
    obtain ⟨v, hv⟩ : ∃ v : Int, IntKind.i64.wrap (-n) = v := ⟨_, rfl⟩
    have hv2 : IntKind.u64.wrap v = ui := by
      rw [← hv, IntKind.wrap_i64, IntKind.wrap_u64]
      omega
    have HS := Lib.hid hsU
    clear hsU hsN hui hu hul h0 h1
    go_enter Tryd.func19, Tryd.ntmps19
    go_wp2_with fail
    refine (hof _).mono ?_
    rintro e w1 ⟨A1, n1, c1, rfl, hnum1, hn1, hb1⟩
    have hT := refText u hnum1 (by omega)
    rw [← HS.out] at hT
    go_wp2_with fail
    refine hT.mono ?_
    rintro e w2 ⟨rfl, hb2⟩
    go_wp2_with fail
    go_ret
    exact ⟨by rw [hs.out]; rfl, ((Below.refl _ _).alloc (Nat.le_refl _) _).trans ((hb1.trans (hb2.mono hb1.size)).mono (by simp))⟩
  · have hs : Hid (sN = sU) := by
      show _ = _
      have hn : n = (u : Int) := by omega
      rw [hsN, hsU, hn, Lib.itoa_nonneg]
    have hv2 : IntKind.u64.wrap n = ui := by
      rw [IntKind.wrap_u64]
      omega
    have HS := Lib.hid hsU
    clear hsU hsN hui hu hul h0 h1
    go_enter Tryd.func19, Tryd.ntmps19
    go_wp2_with fail
    refine (hof _).mono ?_
    rintro e w1 ⟨A1, n1, c1, rfl, hnum1, hn1, hb1⟩
    have hT := refText u hnum1 (by omega)
    rw [← HS.out] at hT
    go_wp2_with fail
    refine hT.mono ?_
    rintro e w2 ⟨rfl, hb2⟩
    go_wp2_with fail
    go_ret
    exact ⟨by rw [hs.out]; rfl, ((Below.refl _ _).alloc (Nat.le_refl _) _).trans ((hb1.trans (hb2.mono hb1.size)).mono (by simp))⟩
end Go.Proofs.YthcglobehoaocaaDoor
