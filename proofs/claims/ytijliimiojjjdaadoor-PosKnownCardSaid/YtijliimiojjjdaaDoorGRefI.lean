/- The contracts of the reference's Text and Whole. The contract of the reference's Number. The contracts of the reference's Parse and ParseWhole. -/
import Derived.Test.YtijliimiojjjdaaDoorGRefE
import Derived.Test.YtijliimiojjjdaaDoorGDivA
import Derived.Lib.ItoaMem
import Derived.Laws.IdiomStrings
import Derived.Deep.RegionWith
import Derived.Test.YtijliimiojjjdaaDoorGRefC
import Derived.Test.YtijliimiojjjdaaDoorGDeciF
namespace Go.Proofs.YtijliimiojjjdaaDoor
section
open Go.RowKit

theorem RNum.lt {w : World} {b n c N : Nat} {A : Option Addr} (h : RNum w b A n c N) : N < 256 ^ n := by
  obtain ⟨l, h1, h2, h3, h4, h5, h6, h7⟩ := h
  rw [← h4, h1.len]
  exact Dig.val_lt h3
theorem RNum.zero_iff {w : World} {b n c N : Nat} {A : Option Addr} (h : RNum w b A n c N) : n = 0 ↔ N = 0 := by
  obtain ⟨l, h1, h2, h3, h4, h5, h6, h7⟩ := h
  have hl := h1.len
  have := Dig.len_le_iff (by omega) h2 h3 0
  rw [h4, ← hl] at this
  simp only [Nat.pow_zero] at this
  omega
theorem RNum.len_le {w : World} {b n c N k : Nat} {A : Option Addr} (h : RNum w b A n c N) (hN : N < 256 ^ k) : n ≤ k := by
  obtain ⟨l, h1, h2, h3, h4, h5, h6, h7⟩ := h
  have hl := h1.len
  have := Dig.len_le_iff (by omega) h2 h3 k
  rw [h4, ← hl] at this
  exact this.2 hN

theorem oneByte (z : Int) (ch : UInt8) (hz : z = (ch.toNat : Int)) (W : World) (g : Nat) (hc : W.cell? ⟨g, 0, none⟩ = some (.int .u8 z)) :
    (Go.convert 76 9 (.slice (some ⟨g, 0, none⟩) 1 1)).run Tryd.prog W = .ok (.string ⟨#[ch]⟩) W := by
  refine run_convert_bytes_back (P := Tryd.prog) W 76 9 5 ⟨g, 0, none⟩ 1 [ch] Tryd.underlying76 Tryd.underlying5 Tryd.underlying9 (fun j hj => ?_)
  obtain rfl : j = 0 := by simp at hj; omega
  simp [Addr.add, hc, hz]
theorem oneByte_new (z : Int) (ch : UInt8) (hz : z = (ch.toNat : Int)) (W : World) :
    (Go.convert 76 9 (.slice (some ⟨W.heap.size, 0, none⟩) 1 1)).run Tryd.prog (W.alloc (.cells #[.int .u8 z] 5)) = .ok (.string ⟨#[ch]⟩) (W.alloc (.cells #[.int .u8 z] 5)) :=
  oneByte z ch hz _ _ (by simp [go_sem])

set_option maxHeartbeats 1000000 in
theorem refText : ∀ (N : Nat) {A : Option Addr} {n c b : Nat} {w : World}, RNum w b A n c N → n ≤ 1000 →
    Calls Tryd.prog 46 #[.slice A n c] w fun e w' => e = .returned (.string ⟨(Lib.decDigits N).toArray⟩) ∧ Below w.heap.size w w' := by
  intro N
  induction N using Nat.strongRecOn with
  | _ N ih =>
  intro A n c b w h hn
  by_cases h0 : n = 0
  · subst h0
    have hN : N = 0 := h.zero_iff.1 rfl
    subst hN
    have ht : Hid (⟨(Lib.decDigits 0).toArray⟩ = (⟨#[48]⟩ : ByteArray)) := by show _ = _; rw [Lib.decDigits_one (by omega)]; rfl
    go_enter Tryd.func46, Tryd.ntmps46
    go_wp2_with fail
    go_ret
    exact ⟨by rw [ht.out]; rfl, Below.refl _ _⟩
  · have hNp : N ≠ 0 := fun e => h0 (h.zero_iff.2 e)
    have hm : N % 10 < 10 := Nat.mod_lt _ (by omega)
    obtain ⟨m, hme⟩ : ∃ m, m = N % 10 := ⟨_, rfl⟩
    have hq := refDiv 10 h (by omega) (by unfold LB; omega) (by omega)
    rw [← hme] at hq hm
    obtain ⟨ch, hch⟩ : ∃ ch : UInt8, ch = UInt8.ofNat (48 + m) := ⟨_, rfl⟩
    obtain ⟨z, hz⟩ : ∃ z : Int, z = (ch.toNat : Int) := ⟨_, rfl⟩
    have hzm : z = 48 + (m : Int) := by rw [hz, hch]; simp; omega
    obtain ⟨s1, hs1⟩ : ∃ s1 : ByteArray, s1 = ⟨#[ch]⟩ := ⟨_, rfl⟩
    obtain ⟨sD, hsD⟩ : ∃ sD : ByteArray, sD = ⟨(Lib.decDigits (N / 10)).toArray⟩ := ⟨_, rfl⟩
    obtain ⟨sN, hsN⟩ : ∃ sN : ByteArray, sN = ⟨(Lib.decDigits N).toArray⟩ := ⟨_, rfl⟩
    have hbig : Hid (¬ N < 10 → sN = sD ++ s1) := by
      intro hh
      rw [hsN, hsD, hs1, Lib.decDigits, dif_neg hh, ← hme, ← hch]
      apply ByteArray.ext
      simp
    have hsml : Hid (N < 10 → sN = s1) := by
      intro hh
      rw [hsN, hs1, Lib.decDigits_one hh, hch, hme, Nat.mod_eq_of_lt hh]
    have hlt : Hid (N < 256 ^ n) := h.lt
    have hno : ¬ (9223372036854775807 < sD.size + s1.size) := by
      have h1 := nDigits_lt (N := N / 10) (n := n) (Nat.lt_of_le_of_lt (Nat.div_le_self _ _) (Nat.lt_of_lt_of_le h.lt (Nat.pow_le_pow_left (by unfold LB; omega) _))) hn
      rw [hsD, hs1, size_list, Lib.decDigits_length]
      have h2 : (⟨#[ch]⟩ : ByteArray).size = 1 := rfl
      omega
    have hadd := fun w => run_string_add_sum (P := Tryd.prog) w sD s1 (by omega)
    clear hno
    have hcv := fun W => oneByte_new z ch hz W
    have hcv2 := fun W g => oneByte z ch hz W g
    rw [← hs1] at hcv hcv2
    have HD := Lib.hid hsD
    rw [← hsN]
    have hw : IntKind.u64.wrap (48 + (m : Int)) = z := by rw [IntKind.wrap_u64]; omega
    have hw8 : IntKind.u8.wrap z = z := by rw [IntKind.wrap_u8]; omega
    have HZ := Lib.hid hz
    have HS := Lib.hid hs1
    clear hz hch hzm hs1 hsD hsN
    clear hme h
    go_enter Tryd.func46, Tryd.ntmps46
    go_wp2_with fail
    refine hq.mono ?_
    rintro e w1 ⟨A1, n1, c1, rfl, hnum1, hn1, hb1⟩
    clear hq
    by_cases h1 : n1 = 0
    · subst h1
      have hz := hnum1.zero_iff.1 rfl
      have hs := hsml.out (by omega)
      go_wp2_with fail
      go_ret
      exact ⟨by rw [hs]; rfl, hb1.alloc hb1.size _⟩
    · have hnz : ¬ N < 10 := by intro hh; exact h1 (hnum1.zero_iff.2 (by omega))
      have hs := hbig.out hnz
      have hlen := hnum1.len_le (k := n) (Nat.lt_of_le_of_lt (Nat.div_le_self _ _) hlt.out)
      have hT := fun W (hb : Below w1.heap.size w1 W) => ih (N / 10) (by omega) (hnum1.below hb) (by omega)
      rw [← HD.out] at hT
      go_wp2_with fail
      have hT1 := hT w1.drew (Below.refl _ _).drew
      have hT2 := hT (w1.alloc (.cells #[.int .u8 z] 5)).drew ((Below.refl _ _).alloc (Nat.le_refl _) _).drew
      have hb1a := hb1.alloc hb1.size (.cells #[.int .u8 z] 5)
      have hs1 := hb1.size
      clear hT hcv2 ih
      have hcv2 := fun W => oneByte_new z ch HZ.out W
      have hcv3 := fun (W : World) => oneByte z ch HZ.out (W.alloc (.cells #[.int .u8 z] 5)).drew W.heap.size (by simp [go_sem])
      have hcvF := fun (W : World) g => oneByte z ch HZ.out W g
      rw [← HS.out] at hcv2 hcv3 hcvF
      have HCV := Lib.hid hcvF
      clear hcvF
      go_region_with
        (first
          | (go_at_call 46
             with_reducible refine hT1.mono ?_
             rintro e w2 ⟨rfl, hb2⟩
             have hfin := Lib.hid (hb1.drew.trans (hb2.mono hs1)))
          | (go_at_call 46
             with_reducible refine hT2.mono ?_
             rintro e w2 ⟨rfl, hb2⟩
             have hfin := Lib.hid (hb1a.drew.trans (hb2.mono (by show _ ≤ (w1.alloc _).heap.size; simp; omega)))
             have kx := hb2.cell (p := ⟨w1.heap.size, 0, none⟩) (by show w1.heap.size < (w1.alloc _).heap.size; simp)
             have hcv4 := HCV.out w2 w1.heap.size (kx.trans (by simp [go_sem]))))
      all_goals
        (go_wp2_with fail
         go_ret
         exact ⟨by rw [hs]; rfl, by first | exact hfin.out | exact hfin.out.alloc hfin.out.size _⟩)

set_option maxHeartbeats 400000 in
theorem refWhole (n : Int) (h0 : -9223372036854775808 ≤ n) (h1 : n ≤ 9223372036854775807) (w : World) :
    Calls Tryd.prog 33 #[.int .i64 n] w fun e w' => e = .returned (.string ⟨(Lib.itoa n).toArray⟩) ∧ Below w.heap.size w w' := by
  have hrow : ∀ (w : World) (x : Nat), Row (w.alloc (.cells #[.int .u64 x] 78)) (w.alloc (.cells #[.int .u64 x] 78)).heap.size .u64 (some ⟨w.heap.size, 0, none⟩) 1 [x] := fun w x =>
    ⟨by simp [ints], fun _ => ⟨_, rfl, by simp, fun j u hu => by
      match j with
      | 0 => simp [ints] at hu; subst hu; simp [Addr.add]
      | j + 1 => simp [ints] at hu⟩⟩
  obtain ⟨u, hu⟩ : ∃ u : Nat, u = n.natAbs := ⟨_, rfl⟩
  have hul : u < LB := by unfold LB; omega
  have hbl : Dig.Below LB [u] := Dig.Below.cons hul (Dig.Below.nil _)
  have hval : Dig.val LB [u] = u := by simp [Dig.val]
  have hof := fun w => refOf (some ⟨w.heap.size, 0, none⟩) 1 1 [u] (w.alloc (.cells #[.int .u64 u] 78)) (hrow w u) hbl (by omega)
  rw [hval] at hof
  clear hrow hval hbl
  obtain ⟨ui, hui⟩ : ∃ ui : Int, ui = (u : Int) := ⟨_, rfl⟩
  rw [← hui] at hof
  obtain ⟨sU, hsU⟩ : ∃ sU : ByteArray, sU = ⟨(Lib.decDigits u).toArray⟩ := ⟨_, rfl⟩
  obtain ⟨sN, hsN⟩ : ∃ sN : ByteArray, sN = ⟨(Lib.itoa n).toArray⟩ := ⟨_, rfl⟩
  rw [← hsN]
  by_cases hneg : n < 0
  · have hs : Hid (sN = ⟨#[45]⟩ ++ sU) := by
      show _ = _
      have hn : n = -(u : Int) := by omega
      rw [hsN, hsU, hn, Lib.itoa_neg u (by omega)]
      apply ByteArray.ext
      simp
    have hadd : ∀ w, (Go.Op.stringOp .add ⟨#[45]⟩ sU).run Tryd.prog w = .ok (.string (⟨#[45]⟩ ++ sU)) w := fun w => run_string_add_sum (P := Tryd.prog) w _ sU (by
      have h2 : (⟨#[45]⟩ : ByteArray).size = 1 := rfl
      rw [h2, hsU, size_list, Lib.decDigits_length]
      have := nDigits_lt (N := u) (n := 1) (by simpa using hul) (by omega)
      omega)
    obtain ⟨v, hv⟩ : ∃ v : Int, IntKind.i64.wrap (-n) = v := ⟨_, rfl⟩
    have hv2 : IntKind.u64.wrap v = ui := by
      rw [← hv, IntKind.wrap_i64, IntKind.wrap_u64]
      omega
    have HS := Lib.hid hsU
    clear hsU hsN hui hu hul h0 h1
    go_enter Tryd.func33, Tryd.ntmps33
    go_wp2_with fail
    refine (hof _).mono ?_
    rintro e w1 ⟨A1, n1, c1, rfl, hnum1, hn1, hb1⟩
    have hT := refText u hnum1 (by omega)
    rw [← HS.out] at hT
    go_wp2_with fail
    refine hT.mono ?_
    rintro e w2 ⟨rfl, hb2⟩
    go_wp2_with fail
    go_ret
    exact ⟨by rw [hs.out]; rfl, ((Below.refl _ _).alloc (Nat.le_refl _) _).trans ((hb1.trans (hb2.mono hb1.size)).mono (by simp))⟩
  · have hs : Hid (sN = sU) := by
      show _ = _
      have hn : n = (u : Int) := by omega
      rw [hsN, hsU, hn, Lib.itoa_nonneg]
    have hv2 : IntKind.u64.wrap n = ui := by
      rw [IntKind.wrap_u64]
      omega
    have HS := Lib.hid hsU
    clear hsU hsN hui hu hul h0 h1
    go_enter Tryd.func33, Tryd.ntmps33
    go_wp2_with fail
    refine (hof _).mono ?_
    rintro e w1 ⟨A1, n1, c1, rfl, hnum1, hn1, hb1⟩
    have hT := refText u hnum1 (by omega)
    rw [← HS.out] at hT
    go_wp2_with fail
    refine hT.mono ?_
    rintro e w2 ⟨rfl, hb2⟩
    go_wp2_with fail
    go_ret
    exact ⟨by rw [hs.out]; rfl, ((Below.refl _ _).alloc (Nat.le_refl _) _).trans ((hb1.trans (hb2.mono hb1.size)).mono (by simp))⟩
end

section
open Go.RowKit

theorem row_of_cell (k : IntKind) (W : World) (g x : Nat) (hg : g < W.heap.size) (hc : W.cell? ⟨g, 0, none⟩ = some (.int k (x : Int))) : Row W W.heap.size k (some ⟨g, 0, none⟩) 1 [x] :=
  ⟨by simp [ints], fun _ => ⟨_, rfl, by simpa using hg, fun j u hu => by
    match j with
    | 0 => simp [ints] at hu; subst hu; simpa [Addr.add] using hc
    | j + 1 => simp [ints] at hu⟩⟩
theorem rnum_of_cell (W : World) (g x : Nat) (hx : x < 256) (h0 : x ≠ 0) (hg : g < W.heap.size) (hc : W.cell? ⟨g, 0, none⟩ = some (.int .u8 (x : Int))) : RNum W g (some ⟨g, 0, none⟩) 1 1 x :=
  ⟨[x], row_of_cell .u8 W g x hg hc, (show Dig.Norm ([] ++ [x]) from Dig.norm_snoc h0), Dig.Below.cons hx (Dig.Below.nil _), by simp [Dig.val], Nat.le_refl _, by unfold maxLen; omega, fun ad h => by cases h; exact Nat.le_refl _⟩

def pre (l : List UInt8) (i : Nat) : Nat := dval (l.take i)
theorem pre_succ (l : List UInt8) (i : Nat) (h : i < l.length) : pre l (i + 1) = pre l i * 10 + ((l[i]'h).toNat - 48) := by
  unfold pre
  rw [List.take_succ_eq_append_getElem h, dval_snoc]
theorem pre_lt (l : List UInt8) (i : Nat) (hd : ∀ c ∈ l.take i, isDig c) : pre l i < 256 ^ i := by
  have h := dval_lt (l.take i) hd
  refine Nat.lt_of_lt_of_le h ?_
  refine Nat.le_trans (Nat.pow_le_pow_right (by omega) (show (l.take i).length ≤ i by rw [List.length_take]; omega)) ?_
  exact Nat.pow_le_pow_left (by omega) _

/-- What Number holds behind i letters. -/
structure NS (w : World) (V : Nat) (A : Option Addr) (n c : Nat) (W : World) : Prop where
  num : RNum W w.heap.size A n c V
  below : Below w.heap.size w W

/-- One letter of Number: the step of its loop, once for all. -/
structure Step (s : ByteArray) (i : Nat) (z di : Int) (d : Nat) : Prop where
  idx : ∀ w, (Go.Instr.index 9 (.string s) (.int .i64 (i : Int))).run Tryd.prog w = .ok (.int .u8 z) w
  lo : ¬ z < 48
  hi : ¬ 57 < z
  w8 : IntKind.u8.wrap (z - 48) = di
  w64 : IntKind.u64.wrap di = di
  dig : di = (d : Int)
  dlt : d < 10
  val : pre s.data.toList (i + 1) = pre s.data.toList i * 10 + d
theorem step_of (s : ByteArray) (i : Nat) (hi : i < s.size) (hd : isDig (s[i]'hi)) : ∃ z di d, Step s i z di d := by
  refine ⟨((s[i]'hi).toNat : Int), (((s[i]'hi).toNat - 48 : Nat) : Int), (s[i]'hi).toNat - 48, ?_, ?_, ?_, ?_, ?_, rfl, ?_, ?_⟩
  · intro w
    rw [run_index_string w 9 s .i64 i Tryd.underlying9, dif_pos ⟨by omega, by omega⟩]
    simp
  all_goals unfold isDig at hd
  · omega
  · omega
  · rw [IntKind.wrap_u8]; omega
  · rw [IntKind.wrap_u64]; omega
  · omega
  · rw [pre_succ _ _ (by rw [size_len]; exact hi)]
    rfl

theorem below_two (W : World) (a b : Obj) : Below W.heap.size W ((W.alloc a).alloc b) := ((Below.refl _ _).alloc (Nat.le_refl _) a).alloc (by simp) b
theorem below_via {w W W' : World} (h : Below w.heap.size w W) (hb : Below W.heap.size W W') : Below w.heap.size w W' := h.trans (hb.mono h.size)

/-- What Number answers for a text of digits. -/
def NumRes (s : ByteArray) (w : World) (e : Ending) (w' : World) : Prop :=
  ∃ A1 n1 c1 b V, e = .returned (.tuple #[.slice A1 n1 c1, .bool b]) ∧ (b = true ↔ Canon s.data.toList) ∧ n1 ≤ 60 ∧ RNum w' w.heap.size A1 n1 c1 V ∧ (b = true → V = dval s.data.toList) ∧ Below w.heap.size w w'

theorem take_dig (s : ByteArray) (i : Nat) (hi : i < s.size) (hd : isDig (s[i]'hi)) (h : ∀ c ∈ s.data.toList.take i, isDig c) : ∀ c ∈ s.data.toList.take (i + 1), isDig c := by
  rw [List.take_succ_eq_append_getElem (by rw [size_len]; exact hi)]
  intro c hc
  rw [List.mem_append] at hc
  rcases hc with hc | hc
  · exact h c hc
  · have : c = s.data.toList[i]'(by rw [size_len]; exact hi) := by simpa using hc
    subst this
    exact hd
theorem no_canon (s : ByteArray) (i : Nat) (hi : i < s.size) (hd : ¬ isDig (s[i]'hi)) : ¬ Canon s.data.toList := fun h =>
  hd (h.1 (s.data.toList[i]'(by rw [size_len]; exact hi)) (List.getElem_mem _))
theorem bad_idx (s : ByteArray) (i : Nat) (hi : i < s.size) (hd : ¬ isDig (s[i]'hi)) : ∃ z : Int, (∀ w, (Go.Instr.index 9 (.string s) (.int .i64 (i : Int))).run Tryd.prog w = .ok (.int .u8 z) w) ∧ (z < 48 ∨ (¬ z < 48 ∧ 57 < z)) := by
  refine ⟨((s[i]'hi).toNat : Int), ?_, ?_⟩
  · intro w
    rw [run_index_string w 9 s .i64 i Tryd.underlying9, dif_pos ⟨by omega, by omega⟩]
    simp
  · unfold isDig at hd
    omega

set_option maxHeartbeats 4000000 in
theorem refNumber (s : ByteArray) (w : World) (hs : s.size ≤ 60) :
    Calls Tryd.prog 49 #[.string s] w (NumRes s w) := by
  go_enter Tryd.func49, Tryd.ntmps49
  go_wp2_with fail
  go_loopw [4, 5] (fun ov iv wr => ∃ (i n c : Nat) (A : Option Addr), i ≤ s.size ∧ iv = .int .i64 i ∧ ov = .slice A n c ∧ n ≤ 60 ∧ Hid (∀ c ∈ s.data.toList.take i, isDig c) ∧ RNum wr w.heap.size A n c (pre s.data.toList i) ∧ Below w.heap.size w wr) (fun _ iv _ => s.size - (intOf iv).toNat)
  case atStart => exact ⟨0, 0, 0, none, by omega, rfl, rfl, by omega, fun c hc => by simp at hc, by simpa [pre, dval] using RNum.zero w w.heap.size, Below.refl _ _⟩
  case round =>
    obtain ⟨i, n, c, A, hik, rfl, rfl, hn, hal, hnum, hb⟩ := hrel
    by_cases hlt : i < s.size
    · by_cases hdig : isDig (s[i]'hlt)
      case neg =>
        obtain ⟨z, hidx, hz⟩ := bad_idx s i hlt hdig
        have hno := Lib.hid (no_canon s i hlt hdig)
        clear hdig hnum hal
        rcases hz with hz | ⟨hz, hz2⟩
        · go_wp2_with fail
          go_ret2
          exact ⟨none, 0, 0, false, 0, rfl, ⟨fun h => (by cases h), fun h => absurd h hno.out⟩, by omega, RNum.zero _ _, fun h => (by cases h), hb⟩
        · go_wp2_with fail
          go_ret2
          exact ⟨none, 0, 0, false, 0, rfl, ⟨fun h => (by cases h), fun h => absurd h hno.out⟩, by omega, RNum.zero _ _, fun h => (by cases h), hb⟩
      obtain ⟨z, di, d, hst⟩ := step_of s i hlt hdig
      have hal' := Lib.hid (take_dig s i hlt hdig hal.out)
      have hpl := Lib.hid (pre_lt s.data.toList (i + 1) hal'.out)
      clear hdig hal
      have hidx := hst.idx
      have hlo := hst.lo
      have hhi := hst.hi
      have hw8 := hst.w8
      have hw64 := hst.w64
      have HS := Lib.hid hst
      obtain rfl := hst.dig
      clear hst
      have hd10 := HS.out.dlt
      have hval : Dig.val LB [d] = d := by simp [Dig.val]
      have hbd : Dig.Below LB [d] := Dig.Below.cons (by unfold LB; omega) (Dig.Below.nil _)
      have hsz := hb.size
      have hM : ∀ (W : World) (g : Nat), Below wr.heap.size wr W → g < W.heap.size → W.cell? ⟨g, 0, none⟩ = some (.int .u8 10) → Calls Tryd.prog 59 #[.slice A n c, .slice (some ⟨g, 0, none⟩) 1 1] W fun e w' => ∃ A1 n1 c1, e = .returned (.slice A1 n1 c1) ∧ RNum w' W.heap.size A1 n1 c1 (pre s.data.toList i * 10) ∧ n1 ≤ n + 1 + 9 ∧ Below W.heap.size W w' :=
        fun W g h1 h2 h3 => refMul (hnum.below h1) (rnum_of_cell W g 10 (by omega) (by omega) h2 h3) (by omega) (by omega)
      have hO : ∀ (W : World) (g : Nat), g < W.heap.size → W.cell? ⟨g, 0, none⟩ = some (.int .u64 (d : Int)) → Calls Tryd.prog 47 #[.slice (some ⟨g, 0, none⟩) 1 1] W fun e w' => ∃ A' n' c', e = .returned (.slice A' n' c') ∧ RNum w' W.heap.size A' n' c' d ∧ n' ≤ 8 * 1 ∧ Below W.heap.size W w' := fun W g h1 h2 => by
        have := refOf (some ⟨g, 0, none⟩) 1 1 [d] W (row_of_cell .u64 W g d h1 h2) hbd (by omega)
        rw [hval] at this
        exact this
      have hM1 := hM ((wr.alloc (.cells #[.int .u64 (d : Int)] 78)).alloc (.cells #[.int .u8 10] 5)).drew (wr.heap.size + 1) ((below_two wr _ _).drew) (by show _ < ((wr.alloc _).alloc _).heap.size; simp) (by simp [go_sem])
      have hM2 := hM ((wr.alloc (.cells #[.int .u8 10] 5)).alloc (.cells #[.int .u64 (d : Int)] 78)).drew wr.heap.size ((below_two wr _ _).drew) (by show _ < ((wr.alloc _).alloc _).heap.size; simp; omega) (by simp [go_sem])
      have hM3 := hM (wr.alloc (.cells #[.int .u8 10] 5)).drew wr.heap.size (((Below.refl _ _).alloc (Nat.le_refl _) _).drew) (by show _ < (wr.alloc _).heap.size; simp) (by simp [go_sem])
      clear hM hval hbd hnum
      go_wp2_with fail
      go_region_with
        (first
          | (go_at_call 59
             with_reducible refine hM1.mono ?_
             rintro e v1 ⟨A1, n1, c1, rfl, kn1, kl1, kb1⟩
             have kc1 := (kb1.cell (p := ⟨wr.heap.size, 0, none⟩) (by show wr.heap.size < ((wr.alloc _).alloc _).heap.size; simp; omega)).trans (show _ = some (Value.int .u64 (d : Int)) by simp [go_sem])
             have kg1 : wr.heap.size < v1.heap.size := Nat.lt_of_lt_of_le (by show wr.heap.size < ((wr.alloc _).alloc _).heap.size; simp; omega) kb1.size
             have kw1 := below_via ((below_two wr (.cells #[.int .u64 (d : Int)] 78) (.cells #[.int .u8 10] 5)).drew) kb1)
          | (go_at_call 59
             with_reducible refine hM2.mono ?_
             rintro e v1 ⟨A1, n1, c1, rfl, kn1, kl1, kb1⟩
             have kc1 := (kb1.cell (p := ⟨wr.heap.size + 1, 0, none⟩) (by show wr.heap.size + 1 < ((wr.alloc _).alloc _).heap.size; simp)).trans (show _ = some (Value.int .u64 (d : Int)) by simp [go_sem])
             have kg1 : wr.heap.size + 1 < v1.heap.size := Nat.lt_of_lt_of_le (by show wr.heap.size + 1 < ((wr.alloc _).alloc _).heap.size; simp) kb1.size
             have kw1 := below_via ((below_two wr (.cells #[.int .u8 10] 5) (.cells #[.int .u64 (d : Int)] 78)).drew) kb1)
          | (go_at_call 59
             with_reducible refine hM3.mono ?_
             rintro e v1 ⟨A1, n1, c1, rfl, kn1, kl1, kb1⟩
             have kw1 := below_via (((Below.refl _ _).alloc (Nat.le_refl _) _).drew) kb1)
          | (go_at_call 47
             with_reducible refine (hO v1 _ kg1 kc1).mono ?_
             rintro e v2 ⟨A2, n2, c2, rfl, kn2, kl2, kb2⟩
             have kn1' := kn1.below kb2
             have kw2 := below_via kw1 kb2)
          | (go_at_call 47
             with_reducible refine (hO (v1.alloc (.cells #[.int .u64 (d : Int)] 78)) v1.heap.size (by simp) (by simp [go_sem])).mono ?_
             rintro e v2 ⟨A2, n2, c2, rfl, kn2, kl2, kb2⟩
             have kn1' := (kn1.alloc _).below kb2
             have kw2 := below_via (kw1.alloc kw1.size _) kb2)
          | (go_at_call 58
             with_reducible refine (refAdd kn1' kn2 ?ha ?hb).mono ?_
             case ha => omega
             case hb => omega
             rintro e v3 ⟨A3, n3, c3, rfl, kn3, kl3, kb3⟩
             have kfin : RNum v3 w.heap.size A3 n3 c3 (pre s.data.toList (i + 1)) ∧ Below w.heap.size w v3 := ⟨by rw [HS.out.val]; exact kn3.mono (Nat.le_trans hsz kw2.size), hb.trans ((below_via kw2 kb3).mono hsz)⟩
             have klen := Lib.hid (Nat.le_trans (kfin.1.len_le hpl.out) (Nat.le_trans hlt hs))
             have KF := Lib.hid kfin
             clear kfin))
      all_goals
        (go_wp2_with fail
         exact ⟨⟨i + 1, _, _, _, hlt, by go_num, rfl, klen.out, hal'.out, KF.out.1, KF.out.2⟩, by simp [intOf]; omega⟩)
    · obtain rfl : i = s.size := by omega
      have hpv : pre s.data.toList s.size = dval s.data.toList := by
        unfold pre
        rw [List.take_of_length_le (by rw [size_len]; omega)]
      rw [hpv] at hnum
      clear hpv hal
      by_cases hemp : s.size = 0
      · have hnil : s.data.toList = [] := by
          apply List.eq_nil_of_length_eq_zero
          rw [size_len]; exact hemp
        have he : s = ⟨#[]⟩ := by rw [← bytesOf s, hnil]
        subst he
        have HN := Lib.hid hnum
        clear hnum
        go_wp2_with fail
        go_ret2
        refine ⟨A, n, c, false, _, rfl, ?_, hn, HN.out, fun h => (by cases h), hb⟩
        constructor
        · intro h; cases h
        · intro h
          obtain ⟨_, h | ⟨x, r, h, _⟩⟩ := h <;> simp at h
      · have hne : s.toList ≠ [] := by
          rw [toList_data]
          intro h
          have := size_len s
          rw [h] at this
          simp at this
          omega
        have hne1 : (s.toList == (⟨#[]⟩ : ByteArray).toList) = false := str_ne (fun h => hemp (by rw [h]; rfl))
        have hne2 : (s.toList == []) = false := by simpa using hne
        have hq := refText _ hnum (by omega)
        by_cases hc : Canon s.data.toList
        · have hse := str_eq s
          rw [(canon_iff _).1 hc, bytesOf] at hq
          go_wp2_with fail
          refine hq.mono ?_
          rintro e w1 ⟨rfl, hb1⟩
          go_wp2_with fail
          go_ret2
          exact ⟨A, n, c, true, _, rfl, by simp [hc], hn, hnum.below hb1, fun _ => rfl, hb.trans (hb1.mono hb.size)⟩
        · obtain ⟨sT, hsT⟩ : ∃ sT : ByteArray, sT = ⟨(Lib.decDigits (dval s.data.toList)).toArray⟩ := ⟨_, rfl⟩
          have hse : (sT.toList == s.toList) = false := str_ne (by
            intro h
            apply hc
            rw [canon_iff]
            have := congrArg (fun b : ByteArray => b.data.toList) (hsT.symm.trans h)
            simpa using this)
          rw [← hsT] at hq
          clear hsT
          go_wp2_with fail
          refine hq.mono ?_
          rintro e w1 ⟨rfl, hb1⟩
          go_wp2_with fail
          go_ret2
          exact ⟨A, n, c, false, _, rfl, by simp [hc], hn, hnum.below hb1, fun h => (by cases h), hb.trans (hb1.mono hb.size)⟩
end

section
open Go.RowKit

/-- What the reference's Parse answers. -/
def RParse (s : ByteArray) (c0 : Int) (w : World) (e : Ending) (w' : World) : Prop :=
  ∃ A1 n1 c1 ei, e = .returned (.tuple #[.slice A1 n1 c1, .int .i64 ei]) ∧ ((ei = 0 ∧ Fit c0 (dval s.data.toList) ∧ Canon s.data.toList ∧ RNum w' w.heap.size A1 n1 c1 (dval s.data.toList)) ∨ (ei = 10 ∧ A1 = none ∧ n1 = 0 ∧ c1 = 0 ∧ Canon s.data.toList ∧ ¬ Fit c0 (dval s.data.toList)) ∨ (ei = 20 ∧ A1 = none ∧ n1 = 0 ∧ c1 = 0 ∧ ¬ Canon s.data.toList)) ∧ Below w.heap.size w w'

/-- What the reference's ParseWhole answers. -/
def RWhole (s : ByteArray) (w : World) (e : Ending) (w' : World) : Prop :=
  ∃ v ki : Int, e = .returned (.tuple #[.int .i64 v, .int .i64 ki]) ∧ ((ki = 0 ∧ (-9223372036854775808 ≤ v ∧ v ≤ 9223372036854775807) ∧ s = ⟨(Lib.itoa v).toArray⟩) ∨ (ki = 20 ∧ v = 0 ∧ ¬ ∃ v, (-9223372036854775808 ≤ v ∧ v ≤ 9223372036854775807) ∧ s = ⟨(Lib.itoa v).toArray⟩)) ∧ Below w.heap.size w w'

theorem list_eq {a b : ByteArray} (h : a.data.toList = b.data.toList) : a = b := by
  rw [← bytesOf a, h, bytesOf]
/-- A text that a whole number has: what is read of it. -/
theorem whole_math (s t : ByteArray) (neg : Bool) (o1 o2 v : Int) (hneg : neg = true → s.data.toList = 45 :: t.data.toList) (hpos : neg = false → t = s ∧ ∀ r, s.data.toList ≠ 45 :: r)
    (h1 : IntKind.i64.wrap ((dval t.data.toList : Nat) : Int) = o1) (h2 : (if neg then IntKind.i64.wrap (-o1) else o1) = o2) (hb : -9223372036854775808 ≤ v ∧ v ≤ 9223372036854775807) (hs : s = ⟨(Lib.itoa v).toArray⟩) :
    Canon t.data.toList ∧ dval t.data.toList < LB ∧ o2 = v := by
  have hl : s.data.toList = Lib.itoa v := by rw [hs]
  by_cases hv : v < 0
  · obtain ⟨u, rfl⟩ : ∃ u : Nat, v = -(u : Int) := ⟨v.natAbs, by omega⟩
    rw [Lib.itoa_neg u (by omega)] at hl
    cases neg
    · exact absurd hl ((hpos rfl).2 _)
    · rw [hneg rfl] at hl
      injection hl with _ hl
      rw [hl, dval_dec] at h1
      rw [if_pos rfl] at h2
      rw [hl, dval_dec]
      refine ⟨dec_canon u, by unfold LB; omega, ?_⟩
      rw [← h2, ← h1, IntKind.wrap_i64, IntKind.wrap_i64]
      omega
  · obtain ⟨u, rfl⟩ : ∃ u : Nat, v = (u : Int) := ⟨v.toNat, by omega⟩
    rw [Lib.itoa_nonneg] at hl
    cases neg
    · rw [if_neg (by decide)] at h2
      rw [(hpos rfl).1, hl, dval_dec] at h1
      rw [(hpos rfl).1, hl, dval_dec]
      refine ⟨dec_canon u, by unfold LB; omega, ?_⟩
      rw [← h2, ← h1, IntKind.wrap_i64]
      omega
    · exfalso
      have h := hneg rfl
      rw [hl] at h
      obtain ⟨c, r, hcr, hc⟩ := dec_head u
      rw [hcr] at h
      injection h with h _
      rw [h] at hc
      exact absurd hc (by decide)

set_option maxHeartbeats 8000000 in
theorem refParseWhole (s : ByteArray) (w : World) (hs : s.size ≤ 60) : Calls Tryd.prog 36 #[.string s] w (RWhole s w) := by
  -- how the text begins
  have hbeg : (s = ⟨#[]⟩) ∨ (∃ (z : Int), (∀ w, (Go.Instr.index 9 (.string s) (.int .i64 0)).run Tryd.prog w = .ok (.int .u8 z) w) ∧ (s.toList == (⟨#[]⟩ : ByteArray).toList) = false ∧ (s.toList == []) = false ∧ s.toList ≠ [] ∧ (1 : Int) ≤ s.size ∧
      ((z ≠ 45 ∧ (z == 45) = false ∧ ∀ r, s.data.toList ≠ 45 :: r) ∨ (z = 45 ∧ s.data.toList = 45 :: (s.extract 1 s.size).data.toList ∧ (s.extract 1 s.size).size ≤ 60))) := by
    cases hl : s.data.toList with
    | nil => left; exact list_eq (by rw [hl])
    | cons x r =>
      right
      have hz : s.size = r.length + 1 := by rw [← size_len, hl]; simp
      have h0 : 0 < s.size := by omega
      have hne : s ≠ (⟨#[]⟩ : ByteArray) := by intro h; rw [h] at h0; exact absurd h0 (by decide)
      have hx : s[0]'h0 = x := by
        have : s.data.toList[0]'(by rw [hl]; simp) = x := by simp [hl]
        exact this
      have htl : s.toList ≠ [] := by rw [toList_data, hl]; simp
      refine ⟨((s[0]'h0).toNat : Int), ?_, str_ne hne, by simpa using htl, htl, by omega, ?_⟩
      · intro w
        rw [run_index_string w 9 s .i64 0 Tryd.underlying9, dif_pos ⟨by omega, by omega⟩]
        simp
      · rw [hx]
        by_cases hx45 : x = 45
        · subst hx45
          right
          refine ⟨rfl, ?_, ?_⟩
          · rw [extract_list, hl, hz]
            simp
          · rw [← size_len, extract_list, hl, hz]
            simp
            omega
        · left
          have hn : (x.toNat : Int) ≠ 45 := by
            intro h
            apply hx45
            apply UInt8.toNat_inj.1
            have : x.toNat = 45 := by omega
            rw [this]; rfl
          refine ⟨hn, by simpa using hn, ?_⟩
          intro r' h
          injection h with h _
          exact hx45 h
  rcases hbeg with hnil | ⟨z, hidx, hne1, hne2, hne3, hsz, ⟨hz1, hz2, hz3⟩ | ⟨hz1, hz2, hz3⟩⟩
  · have HM := Lib.hid (fun o1 o2 v h1 h2 hb hs => whole_math s s false o1 o2 v (fun h => (by cases h)) (fun _ => ⟨rfl, fun r h => by rw [hnil] at h; cases h⟩) h1 h2 hb hs)
    have HE := Lib.hid hnil
    have hne : (s.toList == (⟨#[]⟩ : ByteArray).toList) = true := by rw [hnil]; exact str_eq _
    have hne2 : s.toList = [] := by rw [hnil, toList_data]
    clear hnil
    go_enter Tryd.func36, Tryd.ntmps36
    go_wp2_with fail
    refine (refNumber (s) w (by assumption)).mono ?_
    rintro e w1 ⟨A1, n1, c1, b, V, rfl, hbc, hn1, hnum, hV, hb1⟩
    have HC := Lib.hid hbc
    have HV := Lib.hid hV
    clear hbc hV hne hne2
    go_wp2_with fail
    refine (refLimbs hnum (by omega)).mono ?_
    rintro e w2 ⟨A2, k, c2, L, rfl, hown, hLv, hLb, hk, hb2⟩
    have hbb := hb1.trans (hb2.mono hb1.size)
    have hrow := hown.row
    have HK := Lib.hid hk
    have HL := Lib.hid hLv
    clear hk hLv hown hnum hb1 hb2
    cases b
    · have hno : Hid (¬ Canon (s).data.toList) := fun h => absurd (HC.out.2 h) (by decide)
      clear hrow
      go_wp2_with fail
      go_ret2
      exact ⟨0, 20, rfl, .inr ⟨rfl, rfl, fun ⟨v, h, h'⟩ => hno.out (HM.out _ _ v rfl rfl h h').1⟩, hbb⟩
    · have hVe := HV.out rfl
      subst hVe
      by_cases hk1 : 1 < k
      · have hbig : Hid (¬ dval (s).data.toList < LB) := fun h => absurd ((HK.out 1).2 (by simpa using h)) (by omega)
        have hk2 : (1 : Int) < (k : Int) := by omega
        clear hrow
        go_wp2_with fail
        go_ret2
        exact ⟨0, 20, rfl, .inr ⟨rfl, rfl, fun ⟨v, h, h'⟩ => hbig.out (HM.out _ _ v rfl rfl h h').2.1⟩, hbb⟩
      · have hk2 : ¬ (1 : Int) < (k : Int) := by omega
        obtain ⟨o1, ho1⟩ : ∃ o1 : Int, IntKind.i64.wrap ((dval (s).data.toList : Nat) : Int) = o1 := ⟨_, rfl⟩
        have hbo : -9223372036854775808 ≤ o1 ∧ o1 ≤ 9223372036854775807 := by rw [← ho1, IntKind.wrap_i64]; omega
        have HB := Lib.hid hbo
        have hW := fun w => refWhole o1 hbo.1 hbo.2 w
        have hM2 := Lib.hid (fun v h h' => (HM.out o1 o1 v ho1 rfl h h').2.2)
        clear hbo
        obtain ⟨sW, hsW⟩ : ∃ sW : ByteArray, sW = ⟨(Lib.itoa o1).toArray⟩ := ⟨_, rfl⟩
        rw [← hsW] at hW
        have HW := Lib.hid hsW
        clear hsW
        rcases Nat.eq_zero_or_pos k with hk0 | hk0
        · subst hk0
          have hV0 : dval (s).data.toList = 0 := by
            have := (HK.out 0).1 (Nat.le_refl _)
            simpa using this
          rw [hV0] at ho1
          have ho1' : IntKind.i64.wrap 0 = o1 := ho1
          clear hrow hV0
          by_cases heq : s = sW
          · have heq2 : sW = s := heq.symm
            subst heq2
            have hse := str_eq sW
            go_wp2_with fail
            refine (hW _).mono ?_
            rintro e w3 ⟨rfl, hb3⟩
            go_wp2_with fail
            go_ret2
            exact ⟨_, 0, rfl, .inl ⟨rfl, HB.out, HW.out⟩, hbb.trans (hb3.mono hbb.size)⟩
          · have hse := str_ne (a := sW) (b := s) (fun h => heq h.symm)
            have hnot := Lib.hid heq
            clear heq
            go_wp2_with fail
            refine (hW _).mono ?_
            rintro e w3 ⟨rfl, hb3⟩
            go_wp2_with fail
            go_ret2
            exact ⟨0, 20, rfl, .inr ⟨rfl, rfl, fun ⟨v, h, h'⟩ => hnot.out (by rw [h', HW.out, hM2.out v h h'])⟩, hbb.trans (hb3.mono hbb.size)⟩
        · obtain rfl : k = 1 := by omega
          obtain ⟨ad, hA, hadb, hcell⟩ := hrow.at_ (i := 0) (by omega)
          subst hA
          have hL0 : Dig.at_ L 0 = dval (s).data.toList := by
            rw [← HL.out]
            have hl := hrow.len
            match L, hl with
            | [x], _ => simp [Dig.at_, Dig.val]
          rw [hL0] at hcell
          have hadd0 : ad.add 0 = ad := by unfold Addr.add; split <;> simp_all
          rw [hadd0] at hcell
          clear hadd0
          generalize ((dval (s).data.toList : Nat) : Int) = Vi at *
          clear hrow hL0
          by_cases heq : s = sW
          · have heq2 : sW = s := heq.symm
            subst heq2
            have hse := str_eq sW
            go_wp2_with fail
            refine (hW _).mono ?_
            rintro e w3 ⟨rfl, hb3⟩
            go_wp2_with fail
            go_ret2
            exact ⟨_, 0, rfl, .inl ⟨rfl, HB.out, HW.out⟩, hbb.trans (hb3.mono hbb.size)⟩
          · have hse := str_ne (a := sW) (b := s) (fun h => heq h.symm)
            have hnot := Lib.hid heq
            clear heq
            go_wp2_with fail
            refine (hW _).mono ?_
            rintro e w3 ⟨rfl, hb3⟩
            go_wp2_with fail
            go_ret2
            exact ⟨0, 20, rfl, .inr ⟨rfl, rfl, fun ⟨v, h, h'⟩ => hnot.out (by rw [h', HW.out, hM2.out v h h'])⟩, hbb.trans (hb3.mono hbb.size)⟩
  · have HM := Lib.hid (fun o1 o2 v h1 h2 hb hs => whole_math s s false o1 o2 v (fun h => (by cases h)) (fun _ => ⟨rfl, hz3⟩) h1 h2 hb hs)
    clear hz3
    go_enter Tryd.func36, Tryd.ntmps36
    go_wp2_with fail
    refine (refNumber (s) w (by assumption)).mono ?_
    rintro e w1 ⟨A1, n1, c1, b, V, rfl, hbc, hn1, hnum, hV, hb1⟩
    have HC := Lib.hid hbc
    have HV := Lib.hid hV
    clear hbc hV
    go_wp2_with fail
    refine (refLimbs hnum (by omega)).mono ?_
    rintro e w2 ⟨A2, k, c2, L, rfl, hown, hLv, hLb, hk, hb2⟩
    have hbb := hb1.trans (hb2.mono hb1.size)
    have hrow := hown.row
    have HK := Lib.hid hk
    have HL := Lib.hid hLv
    clear hk hLv hown hnum hb1 hb2
    cases b
    · have hno : Hid (¬ Canon (s).data.toList) := fun h => absurd (HC.out.2 h) (by decide)
      clear hrow
      go_wp2_with fail
      go_ret2
      exact ⟨0, 20, rfl, .inr ⟨rfl, rfl, fun ⟨v, h, h'⟩ => hno.out (HM.out _ _ v rfl rfl h h').1⟩, hbb⟩
    · have hVe := HV.out rfl
      subst hVe
      by_cases hk1 : 1 < k
      · have hbig : Hid (¬ dval (s).data.toList < LB) := fun h => absurd ((HK.out 1).2 (by simpa using h)) (by omega)
        have hk2 : (1 : Int) < (k : Int) := by omega
        clear hrow
        go_wp2_with fail
        go_ret2
        exact ⟨0, 20, rfl, .inr ⟨rfl, rfl, fun ⟨v, h, h'⟩ => hbig.out (HM.out _ _ v rfl rfl h h').2.1⟩, hbb⟩
      · have hk2 : ¬ (1 : Int) < (k : Int) := by omega
        obtain ⟨o1, ho1⟩ : ∃ o1 : Int, IntKind.i64.wrap ((dval (s).data.toList : Nat) : Int) = o1 := ⟨_, rfl⟩
        have hbo : -9223372036854775808 ≤ o1 ∧ o1 ≤ 9223372036854775807 := by rw [← ho1, IntKind.wrap_i64]; omega
        have HB := Lib.hid hbo
        have hW := fun w => refWhole o1 hbo.1 hbo.2 w
        have hM2 := Lib.hid (fun v h h' => (HM.out o1 o1 v ho1 rfl h h').2.2)
        clear hbo
        obtain ⟨sW, hsW⟩ : ∃ sW : ByteArray, sW = ⟨(Lib.itoa o1).toArray⟩ := ⟨_, rfl⟩
        rw [← hsW] at hW
        have HW := Lib.hid hsW
        clear hsW
        rcases Nat.eq_zero_or_pos k with hk0 | hk0
        · subst hk0
          have hV0 : dval (s).data.toList = 0 := by
            have := (HK.out 0).1 (Nat.le_refl _)
            simpa using this
          rw [hV0] at ho1
          have ho1' : IntKind.i64.wrap 0 = o1 := ho1
          clear hrow hV0
          by_cases heq : s = sW
          · have heq2 : sW = s := heq.symm
            subst heq2
            have hse := str_eq sW
            go_wp2_with fail
            refine (hW _).mono ?_
            rintro e w3 ⟨rfl, hb3⟩
            go_wp2_with fail
            go_ret2
            exact ⟨_, 0, rfl, .inl ⟨rfl, HB.out, HW.out⟩, hbb.trans (hb3.mono hbb.size)⟩
          · have hse := str_ne (a := sW) (b := s) (fun h => heq h.symm)
            have hnot := Lib.hid heq
            clear heq
            go_wp2_with fail
            refine (hW _).mono ?_
            rintro e w3 ⟨rfl, hb3⟩
            go_wp2_with fail
            go_ret2
            exact ⟨0, 20, rfl, .inr ⟨rfl, rfl, fun ⟨v, h, h'⟩ => hnot.out (by rw [h', HW.out, hM2.out v h h'])⟩, hbb.trans (hb3.mono hbb.size)⟩
        · obtain rfl : k = 1 := by omega
          obtain ⟨ad, hA, hadb, hcell⟩ := hrow.at_ (i := 0) (by omega)
          subst hA
          have hL0 : Dig.at_ L 0 = dval (s).data.toList := by
            rw [← HL.out]
            have hl := hrow.len
            match L, hl with
            | [x], _ => simp [Dig.at_, Dig.val]
          rw [hL0] at hcell
          have hadd0 : ad.add 0 = ad := by unfold Addr.add; split <;> simp_all
          rw [hadd0] at hcell
          clear hadd0
          generalize ((dval (s).data.toList : Nat) : Int) = Vi at *
          clear hrow hL0
          by_cases heq : s = sW
          · have heq2 : sW = s := heq.symm
            subst heq2
            have hse := str_eq sW
            go_wp2_with fail
            refine (hW _).mono ?_
            rintro e w3 ⟨rfl, hb3⟩
            go_wp2_with fail
            go_ret2
            exact ⟨_, 0, rfl, .inl ⟨rfl, HB.out, HW.out⟩, hbb.trans (hb3.mono hbb.size)⟩
          · have hse := str_ne (a := sW) (b := s) (fun h => heq h.symm)
            have hnot := Lib.hid heq
            clear heq
            go_wp2_with fail
            refine (hW _).mono ?_
            rintro e w3 ⟨rfl, hb3⟩
            go_wp2_with fail
            go_ret2
            exact ⟨0, 20, rfl, .inr ⟨rfl, rfl, fun ⟨v, h, h'⟩ => hnot.out (by rw [h', HW.out, hM2.out v h h'])⟩, hbb.trans (hb3.mono hbb.size)⟩
  · have HM := Lib.hid (fun o1 o2 v h1 h2 hb hs => whole_math s (s.extract 1 s.size) true o1 o2 v (fun _ => hz2) (fun h => (by cases h)) h1 h2 hb hs)
    subst hz1
    clear hz2
    go_enter Tryd.func36, Tryd.ntmps36
    go_wp2_with fail
    refine (refNumber (s.extract 1 s.size) w (by assumption)).mono ?_
    rintro e w1 ⟨A1, n1, c1, b, V, rfl, hbc, hn1, hnum, hV, hb1⟩
    have HC := Lib.hid hbc
    have HV := Lib.hid hV
    clear hbc hV
    go_wp2_with fail
    refine (refLimbs hnum (by omega)).mono ?_
    rintro e w2 ⟨A2, k, c2, L, rfl, hown, hLv, hLb, hk, hb2⟩
    have hbb := hb1.trans (hb2.mono hb1.size)
    have hrow := hown.row
    have HK := Lib.hid hk
    have HL := Lib.hid hLv
    clear hk hLv hown hnum hb1 hb2
    cases b
    · have hno : Hid (¬ Canon (s.extract 1 s.size).data.toList) := fun h => absurd (HC.out.2 h) (by decide)
      clear hrow
      go_wp2_with fail
      go_ret2
      exact ⟨0, 20, rfl, .inr ⟨rfl, rfl, fun ⟨v, h, h'⟩ => hno.out (HM.out _ _ v rfl rfl h h').1⟩, hbb⟩
    · have hVe := HV.out rfl
      subst hVe
      by_cases hk1 : 1 < k
      · have hbig : Hid (¬ dval (s.extract 1 s.size).data.toList < LB) := fun h => absurd ((HK.out 1).2 (by simpa using h)) (by omega)
        have hk2 : (1 : Int) < (k : Int) := by omega
        clear hrow
        go_wp2_with fail
        go_ret2
        exact ⟨0, 20, rfl, .inr ⟨rfl, rfl, fun ⟨v, h, h'⟩ => hbig.out (HM.out _ _ v rfl rfl h h').2.1⟩, hbb⟩
      · have hk2 : ¬ (1 : Int) < (k : Int) := by omega
        obtain ⟨o1, ho1⟩ : ∃ o1 : Int, IntKind.i64.wrap ((dval (s.extract 1 s.size).data.toList : Nat) : Int) = o1 := ⟨_, rfl⟩
        obtain ⟨o2, ho2⟩ : ∃ o2 : Int, IntKind.i64.wrap (-o1) = o2 := ⟨_, rfl⟩
        have hbo : -9223372036854775808 ≤ o2 ∧ o2 ≤ 9223372036854775807 := by rw [← ho2, IntKind.wrap_i64]; omega
        have HB := Lib.hid hbo
        have hW := fun w => refWhole o2 hbo.1 hbo.2 w
        have hM2 := Lib.hid (fun v h h' => (HM.out o1 o2 v ho1 ho2 h h').2.2)
        clear hbo
        obtain ⟨sW, hsW⟩ : ∃ sW : ByteArray, sW = ⟨(Lib.itoa o2).toArray⟩ := ⟨_, rfl⟩
        rw [← hsW] at hW
        have HW := Lib.hid hsW
        clear hsW
        rcases Nat.eq_zero_or_pos k with hk0 | hk0
        · subst hk0
          have hV0 : dval (s.extract 1 s.size).data.toList = 0 := by
            have := (HK.out 0).1 (Nat.le_refl _)
            simpa using this
          rw [hV0] at ho1
          have ho1' : IntKind.i64.wrap 0 = o1 := ho1
          clear hrow hV0
          by_cases heq : s = sW
          · have heq2 : sW = s := heq.symm
            subst heq2
            have hse := str_eq sW
            go_wp2_with fail
            refine (hW _).mono ?_
            rintro e w3 ⟨rfl, hb3⟩
            go_wp2_with fail
            go_ret2
            exact ⟨_, 0, rfl, .inl ⟨rfl, HB.out, HW.out⟩, hbb.trans (hb3.mono hbb.size)⟩
          · have hse := str_ne (a := sW) (b := s) (fun h => heq h.symm)
            have hnot := Lib.hid heq
            clear heq
            go_wp2_with fail
            refine (hW _).mono ?_
            rintro e w3 ⟨rfl, hb3⟩
            go_wp2_with fail
            go_ret2
            exact ⟨0, 20, rfl, .inr ⟨rfl, rfl, fun ⟨v, h, h'⟩ => hnot.out (by rw [h', HW.out, hM2.out v h h'])⟩, hbb.trans (hb3.mono hbb.size)⟩
        · obtain rfl : k = 1 := by omega
          obtain ⟨ad, hA, hadb, hcell⟩ := hrow.at_ (i := 0) (by omega)
          subst hA
          have hL0 : Dig.at_ L 0 = dval (s.extract 1 s.size).data.toList := by
            rw [← HL.out]
            have hl := hrow.len
            match L, hl with
            | [x], _ => simp [Dig.at_, Dig.val]
          rw [hL0] at hcell
          have hadd0 : ad.add 0 = ad := by unfold Addr.add; split <;> simp_all
          rw [hadd0] at hcell
          clear hadd0
          generalize ((dval (s.extract 1 s.size).data.toList : Nat) : Int) = Vi at *
          clear hrow hL0
          by_cases heq : s = sW
          · have heq2 : sW = s := heq.symm
            subst heq2
            have hse := str_eq sW
            go_wp2_with fail
            refine (hW _).mono ?_
            rintro e w3 ⟨rfl, hb3⟩
            go_wp2_with fail
            go_ret2
            exact ⟨_, 0, rfl, .inl ⟨rfl, HB.out, HW.out⟩, hbb.trans (hb3.mono hbb.size)⟩
          · have hse := str_ne (a := sW) (b := s) (fun h => heq h.symm)
            have hnot := Lib.hid heq
            clear heq
            go_wp2_with fail
            refine (hW _).mono ?_
            rintro e w3 ⟨rfl, hb3⟩
            go_wp2_with fail
            go_ret2
            exact ⟨0, 20, rfl, .inr ⟨rfl, rfl, fun ⟨v, h, h'⟩ => hnot.out (by rw [h', HW.out, hM2.out v h h'])⟩, hbb.trans (hb3.mono hbb.size)⟩
end
end Go.Proofs.YtijliimiojjjdaaDoor
