/- The contract of the reference's Number. -/
import Derived.Test.YthcglobehoaocaaDoorRefI
import Derived.Test.YthcglobehoaocaaDoorRefD
import Derived.Test.YthcglobehoaocaaDoorRefF
import Derived.Test.YthcglobehoaocaaDoorDeciM
import Derived.Deep.RegionWith
namespace Go.Proofs.YthcglobehoaocaaDoor
open Go.RowKit

theorem row_of_cell (k : IntKind) (W : World) (g x : Nat) (hg : g < W.heap.size) (hc : W.cell? ⟨g, 0, none⟩ = some (.int k (x : Int))) : Row W W.heap.size k (some ⟨g, 0, none⟩) 1 [x] :=
  ⟨by simp [ints], fun _ => ⟨_, rfl, by simpa using hg, fun j u hu => by
    match j with
    | 0 => simp [ints] at hu; subst hu; simpa [Addr.add] using hc
    | j + 1 => simp [ints] at hu⟩⟩
theorem rnum_of_cell (W : World) (g x : Nat) (hx : x < 256) (h0 : x ≠ 0) (hg : g < W.heap.size) (hc : W.cell? ⟨g, 0, none⟩ = some (.int .u8 (x : Int))) : RNum W g (some ⟨g, 0, none⟩) 1 1 x :=
  ⟨[x], row_of_cell .u8 W g x hg hc, (show Dig.Norm ([] ++ [x]) from Dig.norm_snoc h0), Dig.Below.cons hx (Dig.Below.nil _), by simp [Dig.val], Nat.le_refl _, by unfold maxLen; omega, fun ad h => by cases h; exact Nat.le_refl _⟩

def pre (l : List UInt8) (i : Nat) : Nat := dval (l.take i)
theorem pre_succ (l : List UInt8) (i : Nat) (h : i < l.length) : pre l (i + 1) = pre l i * 10 + ((l[i]'h).toNat - 48) := by
  unfold pre
  rw [List.take_succ_eq_append_getElem h, dval_snoc]
theorem pre_lt (l : List UInt8) (i : Nat) (hd : ∀ c ∈ l.take i, isDig c) : pre l i < 256 ^ i := by
  have h := dval_lt (l.take i) hd
  refine Nat.lt_of_lt_of_le h ?_
  refine Nat.le_trans (Nat.pow_le_pow_right (by omega) (show (l.take i).length ≤ i by rw [List.length_take]; omega)) ?_
  exact Nat.pow_le_pow_left (by omega) _

/-- What Number holds behind i letters. -/
structure NS (w : World) (V : Nat) (A : Option Addr) (n c : Nat) (W : World) : Prop where
  num : RNum W w.heap.size A n c V
  below : Below w.heap.size w W

/-- One letter of Number: the step of its loop, once for all. -/
structure Step (s : ByteArray) (i : Nat) (z di : Int) (d : Nat) : Prop where
  idx : ∀ w, (Go.Instr.index 9 (.string s) (.int .i64 (i : Int))).run Tryd.prog w = .ok (.int .u8 z) w
  lo : ¬ z < 48
  hi : ¬ 57 < z
  w8 : IntKind.u8.wrap (z - 48) = di
  w64 : IntKind.u64.wrap di = di
  dig : di = (d : Int)
  dlt : d < 10
  val : pre s.data.toList (i + 1) = pre s.data.toList i * 10 + d
theorem step_of (s : ByteArray) (i : Nat) (hi : i < s.size) (hd : isDig (s[i]'hi)) : ∃ z di d, Step s i z di d := by
  refine ⟨((s[i]'hi).toNat : Int), (((s[i]'hi).toNat - 48 : Nat) : Int), (s[i]'hi).toNat - 48, ?_, ?_, ?_, ?_, ?_, rfl, ?_, ?_⟩
  · intro w
    rw [run_index_string w 9 s .i64 i Tryd.underlying9, dif_pos ⟨by omega, by omega⟩]
    simp
  all_goals unfold isDig at hd
  · omega
  · omega
  · rw [IntKind.wrap_u8]; omega
  · rw [IntKind.wrap_u64]; omega
  · omega
  · rw [pre_succ _ _ (by rw [size_len]; exact hi)]
    rfl

theorem below_two (W : World) (a b : Obj) : Below W.heap.size W ((W.alloc a).alloc b) := ((Below.refl _ _).alloc (Nat.le_refl _) a).alloc (by simp) b
theorem below_via {w W W' : World} (h : Below w.heap.size w W) (hb : Below W.heap.size W W') : Below w.heap.size w W' := h.trans (hb.mono h.size)

/-- What Number answers for a text of digits. -/
def NumRes (s : ByteArray) (w : World) (e : Ending) (w' : World) : Prop :=
  ∃ A1 n1 c1 b V, e = .returned (.tuple #[.slice A1 n1 c1, .bool b]) ∧ (b = true ↔ Canon s.data.toList) ∧ n1 ≤ 60 ∧ RNum w' w.heap.size A1 n1 c1 V ∧ (b = true → V = dval s.data.toList) ∧ Below w.heap.size w w'

theorem take_dig (s : ByteArray) (i : Nat) (hi : i < s.size) (hd : isDig (s[i]'hi)) (h : ∀ c ∈ s.data.toList.take i, isDig c) : ∀ c ∈ s.data.toList.take (i + 1), isDig c := by
  rw [List.take_succ_eq_append_getElem (by rw [size_len]; exact hi)]
  intro c hc
  rw [List.mem_append] at hc
  rcases hc with hc | hc
  · exact h c hc
  · have : c = s.data.toList[i]'(by rw [size_len]; exact hi) := by simpa using hc
    subst this
    exact hd
theorem no_canon (s : ByteArray) (i : Nat) (hi : i < s.size) (hd : ¬ isDig (s[i]'hi)) : ¬ Canon s.data.toList := fun h =>
  hd (h.1 (s.data.toList[i]'(by rw [size_len]; exact hi)) (List.getElem_mem _))
theorem bad_idx (s : ByteArray) (i : Nat) (hi : i < s.size) (hd : ¬ isDig (s[i]'hi)) : ∃ z : Int, (∀ w, (Go.Instr.index 9 (.string s) (.int .i64 (i : Int))).run Tryd.prog w = .ok (.int .u8 z) w) ∧ (z < 48 ∨ (¬ z < 48 ∧ 57 < z)) := by
  refine ⟨((s[i]'hi).toNat : Int), ?_, ?_⟩
  · intro w
    rw [run_index_string w 9 s .i64 i Tryd.underlying9, dif_pos ⟨by omega, by omega⟩]
    simp
  · unfold isDig at hd
    omega

set_option maxHeartbeats 4000000 in
theorem refNumber (s : ByteArray) (w : World) (hs : s.size ≤ 60) :
    Calls Tryd.prog 45 #[.string s] w (NumRes s w) := by
  go_enter Tryd.func45, Tryd.ntmps45
  go_wp2_with fail
  go_loopw [4, 5] (fun ov iv wr => ∃ (i n c : Nat) (A : Option Addr), i ≤ s.size ∧ iv = .int .i64 i ∧ ov = .slice A n c ∧ n ≤ 60 ∧ Hid (∀ c ∈ s.data.toList.take i, isDig c) ∧ RNum wr w.heap.size A n c (pre s.data.toList i) ∧ Below w.heap.size w wr) (fun _ iv _ => s.size - (intOf iv).toNat)
  case atStart => exact ⟨0, 0, 0, none, by omega, rfl, rfl, by omega, fun c hc => by simp at hc, by simpa [pre, dval] using RNum.zero w w.heap.size, Below.refl _ _⟩
  case round =>
    obtain ⟨i, n, c, A, hik, rfl, rfl, hn, hal, hnum, hb⟩ := hrel
    by_cases hlt : i < s.size
    · by_cases hdig : isDig (s[i]'hlt)
      case neg =>
        obtain ⟨z, hidx, hz⟩ := bad_idx s i hlt hdig
        have hno := Lib.hid (no_canon s i hlt hdig)
        clear hdig hnum hal
        rcases hz with hz | ⟨hz, hz2⟩
        · go_wp2_with fail
          go_ret2
          exact ⟨none, 0, 0, false, 0, rfl, ⟨fun h => (by cases h), fun h => absurd h hno.out⟩, by omega, RNum.zero _ _, fun h => (by cases h), hb⟩
        · go_wp2_with fail
          go_ret2
          exact ⟨none, 0, 0, false, 0, rfl, ⟨fun h => (by cases h), fun h => absurd h hno.out⟩, by omega, RNum.zero _ _, fun h => (by cases h), hb⟩
      obtain ⟨z, di, d, hst⟩ := step_of s i hlt hdig
      have hal' := Lib.hid (take_dig s i hlt hdig hal.out)
      have hpl := Lib.hid (pre_lt s.data.toList (i + 1) hal'.out)
      clear hdig hal
      have hidx := hst.idx
      have hlo := hst.lo
      have hhi := hst.hi
      have hw8 := hst.w8
      have hw64 := hst.w64
      have HS := Lib.hid hst
      obtain rfl := hst.dig
      clear hst
      have hd10 := HS.out.dlt
      have hval : Dig.val LB [d] = d := by simp [Dig.val]
      have hbd : Dig.Below LB [d] := Dig.Below.cons (by unfold LB; omega) (Dig.Below.nil _)
      have hsz := hb.size
      have hM : ∀ (W : World) (g : Nat), Below wr.heap.size wr W → g < W.heap.size → W.cell? ⟨g, 0, none⟩ = some (.int .u8 10) → Calls Tryd.prog 62 #[.slice A n c, .slice (some ⟨g, 0, none⟩) 1 1] W fun e w' => ∃ A1 n1 c1, e = .returned (.slice A1 n1 c1) ∧ RNum w' W.heap.size A1 n1 c1 (pre s.data.toList i * 10) ∧ n1 ≤ n + 1 + 9 ∧ Below W.heap.size W w' :=
        fun W g h1 h2 h3 => refMul (hnum.below h1) (rnum_of_cell W g 10 (by omega) (by omega) h2 h3) (by omega) (by omega)
      have hO : ∀ (W : World) (g : Nat), g < W.heap.size → W.cell? ⟨g, 0, none⟩ = some (.int .u64 (d : Int)) → Calls Tryd.prog 11 #[.slice (some ⟨g, 0, none⟩) 1 1] W fun e w' => ∃ A' n' c', e = .returned (.slice A' n' c') ∧ RNum w' W.heap.size A' n' c' d ∧ n' ≤ 8 * 1 ∧ Below W.heap.size W w' := fun W g h1 h2 => by
        have := refOf (some ⟨g, 0, none⟩) 1 1 [d] W (row_of_cell .u64 W g d h1 h2) hbd (by omega)
        rw [hval] at this
        exact this
      have hM1 := hM ((wr.alloc (.cells #[.int .u64 (d : Int)] 23)).alloc (.cells #[.int .u8 10] 5)).drew (wr.heap.size + 1) ((below_two wr _ _).drew) (by show _ < ((wr.alloc _).alloc _).heap.size; simp) (by simp [go_sem])
      have hM2 := hM ((wr.alloc (.cells #[.int .u8 10] 5)).alloc (.cells #[.int .u64 (d : Int)] 23)).drew wr.heap.size ((below_two wr _ _).drew) (by show _ < ((wr.alloc _).alloc _).heap.size; simp; omega) (by simp [go_sem])
      have hM3 := hM (wr.alloc (.cells #[.int .u8 10] 5)).drew wr.heap.size (((Below.refl _ _).alloc (Nat.le_refl _) _).drew) (by show _ < (wr.alloc _).heap.size; simp) (by simp [go_sem])
      clear hM hval hbd hnum
      go_wp2_with fail
      go_region_with
        (first
          | (go_at_call 62
             with_reducible refine hM1.mono ?_
             rintro e v1 ⟨A1, n1, c1, rfl, kn1, kl1, kb1⟩
             have kc1 := (kb1.cell (p := ⟨wr.heap.size, 0, none⟩) (by show wr.heap.size < ((wr.alloc _).alloc _).heap.size; simp; omega)).trans (show _ = some (Value.int .u64 (d : Int)) by simp [go_sem])
             have kg1 : wr.heap.size < v1.heap.size := Nat.lt_of_lt_of_le (by show wr.heap.size < ((wr.alloc _).alloc _).heap.size; simp; omega) kb1.size
             have kw1 := below_via ((below_two wr (.cells #[.int .u64 (d : Int)] 23) (.cells #[.int .u8 10] 5)).drew) kb1)
          | (go_at_call 62
             with_reducible refine hM2.mono ?_
             rintro e v1 ⟨A1, n1, c1, rfl, kn1, kl1, kb1⟩
             have kc1 := (kb1.cell (p := ⟨wr.heap.size + 1, 0, none⟩) (by show wr.heap.size + 1 < ((wr.alloc _).alloc _).heap.size; simp)).trans (show _ = some (Value.int .u64 (d : Int)) by simp [go_sem])
             have kg1 : wr.heap.size + 1 < v1.heap.size := Nat.lt_of_lt_of_le (by show wr.heap.size + 1 < ((wr.alloc _).alloc _).heap.size; simp) kb1.size
             have kw1 := below_via ((below_two wr (.cells #[.int .u8 10] 5) (.cells #[.int .u64 (d : Int)] 23)).drew) kb1)
          | (go_at_call 62
             with_reducible refine hM3.mono ?_
             rintro e v1 ⟨A1, n1, c1, rfl, kn1, kl1, kb1⟩
             have kw1 := below_via (((Below.refl _ _).alloc (Nat.le_refl _) _).drew) kb1)
          | (go_at_call 11
             with_reducible refine (hO v1 _ kg1 kc1).mono ?_
             rintro e v2 ⟨A2, n2, c2, rfl, kn2, kl2, kb2⟩
             have kn1' := kn1.below kb2
             have kw2 := below_via kw1 kb2)
          | (go_at_call 11
             with_reducible refine (hO (v1.alloc (.cells #[.int .u64 (d : Int)] 23)) v1.heap.size (by simp) (by simp [go_sem])).mono ?_
             rintro e v2 ⟨A2, n2, c2, rfl, kn2, kl2, kb2⟩
             have kn1' := (kn1.alloc _).below kb2
             have kw2 := below_via (kw1.alloc kw1.size _) kb2)
          | (go_at_call 61
             with_reducible refine (refAdd kn1' kn2 ?ha ?hb).mono ?_
             case ha => omega
             case hb => omega
             rintro e v3 ⟨A3, n3, c3, rfl, kn3, kl3, kb3⟩
             have kfin : RNum v3 w.heap.size A3 n3 c3 (pre s.data.toList (i + 1)) ∧ Below w.heap.size w v3 := ⟨by rw [HS.out.val]; exact kn3.mono (Nat.le_trans hsz kw2.size), hb.trans ((below_via kw2 kb3).mono hsz)⟩
             have klen := Lib.hid (Nat.le_trans (kfin.1.len_le hpl.out) (Nat.le_trans hlt hs))
             have KF := Lib.hid kfin
             clear kfin))
      all_goals
        (go_wp2_with fail
         exact ⟨⟨i + 1, _, _, _, hlt, by go_num, rfl, klen.out, hal'.out, KF.out.1, KF.out.2⟩, by simp [intOf]; omega⟩)
    · obtain rfl : i = s.size := by omega
      have hpv : pre s.data.toList s.size = dval s.data.toList := by
        unfold pre
        rw [List.take_of_length_le (by rw [size_len]; omega)]
      rw [hpv] at hnum
      clear hpv hal
      by_cases hemp : s.size = 0
      · have hnil : s.data.toList = [] := by
          apply List.eq_nil_of_length_eq_zero
          rw [size_len]; exact hemp
        have he : s = ⟨#[]⟩ := by rw [← bytesOf s, hnil]
        subst he
        have HN := Lib.hid hnum
        clear hnum
        go_wp2_with fail
        go_ret2
        refine ⟨A, n, c, false, _, rfl, ?_, hn, HN.out, fun h => (by cases h), hb⟩
        constructor
        · intro h; cases h
        · intro h
          obtain ⟨_, h | ⟨x, r, h, _⟩⟩ := h <;> simp at h
      · have hne : s.toList ≠ [] := by
          rw [toList_data]
          intro h
          have := size_len s
          rw [h] at this
          simp at this
          omega
        have hne1 : (s.toList == (⟨#[]⟩ : ByteArray).toList) = false := str_ne (fun h => hemp (by rw [h]; rfl))
        have hne2 : (s.toList == []) = false := by simpa using hne
        have hq := refText _ hnum (by omega)
        by_cases hc : Canon s.data.toList
        · have hse := str_eq s
          rw [(canon_iff _).1 hc, bytesOf] at hq
          go_wp2_with fail
          refine hq.mono ?_
          rintro e w1 ⟨rfl, hb1⟩
          go_wp2_with fail
          go_ret2
          exact ⟨A, n, c, true, _, rfl, by simp [hc], hn, hnum.below hb1, fun _ => rfl, hb.trans (hb1.mono hb.size)⟩
        · obtain ⟨sT, hsT⟩ : ∃ sT : ByteArray, sT = ⟨(Lib.decDigits (dval s.data.toList)).toArray⟩ := ⟨_, rfl⟩
          have hse : (sT.toList == s.toList) = false := str_ne (by
            intro h
            apply hc
            rw [canon_iff]
            have := congrArg (fun b : ByteArray => b.data.toList) (hsT.symm.trans h)
            simpa using this)
          rw [← hsT] at hq
          clear hsT
          go_wp2_with fail
          refine hq.mono ?_
          rintro e w1 ⟨rfl, hb1⟩
          go_wp2_with fail
          go_ret2
          exact ⟨A, n, c, false, _, rfl, by simp [hc], hn, hnum.below hb1, fun h => (by cases h), hb.trans (hb1.mono hb.size)⟩
end Go.Proofs.YthcglobehoaocaaDoor
