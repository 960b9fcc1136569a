/- The contracts of deci's putRows, Text and Digits. -/
import Derived.Test.YthcglobehoaocaaDoorDeciD
namespace Go.Proofs.YthcglobehoaocaaDoor
open Go.RowKit

theorem divideTT (base n c : Nat) (A : Option Addr) (l : List Nat) (w : World) (hown : Own w base 23 .u64 A n c l) (bl : Dig.Below LB l) (hn : n ≤ 1000000000000) (hbw : base ≤ w.heap.size) :
    Calls Tryd.prog 35 #[.slice A n c, .int .u64 10000000000000000000] w fun e w' => e = .returned (.int .u64 ((dvd TT l).2 : Nat)) ∧ Own w' base 23 .u64 A n c (dvd TT l).1 ∧ Below base w w' :=
  divideAny base n c TT A l w hown bl TT_pos TT_lt hn hbw

/-- A builder that has not been written. -/
def Fresh (b : Nat) (w : World) : Prop := w.heap[b]? = some (.cells #[.pointer none, .slice none 0 0] 67 (0, 0))
theorem Fresh.bld {B b : Nat} {w : World} (h : Fresh b w) (hB : B ≤ b) : Bld B b [] w :=
  Or.inl ⟨hB, .slice none 0 0, h, World.ownsRowF_nil _ _ _ _, by simp [Value.ownBlock]⟩
theorem Fresh.below {b : Nat} {w w' : World} (h : Fresh b w) (hb : Below (b + 1) w w') : Fresh b w' := (hb.block b (by omega)).trans h

/-- Where the rows' loop stands. -/
structure RowsAt (b N : Nat) (w : World) (k : Nat) (A : Option Addr) (n c : Nat) (wr : World) : Prop where
  own : ∃ l, Own wr (b + 1) 23 .u64 A n c l ∧ Dig.Below LB l ∧ Dig.val LB l = mdiv N k
  more : k = 0 ∨ 1 ≤ mdiv N k
  len : n ≤ 1000000000000
  below : Below (b + 1) w wr

theorem rows_next {b N k n c j : Nat} {w w1 : World} {A : Option Addr} {q : List Nat} (hown : Own w1 (b + 1) 23 .u64 A n c q) (bq : Dig.Below LB q) (hq : Dig.val LB q = mdiv N (k + 1)) (hj : j < n) (hn : n ≤ 1000000000000) (hst : Dig.nrm (q.take (j + 1)) = Dig.nrm q) (hz : Dig.at_ q j ≠ 0) (hb : Below (b + 1) w w1) :
    RowsAt b N w (k + 1) A (j + 1) c w1 := by
  have hl := hown.len
  have hv : Dig.val LB (q.take (j + 1)) = mdiv N (k + 1) := by rw [← hq, ← Dig.val_nrm LB (q.take (j + 1)), hst, Dig.val_nrm]
  have hnorm : Dig.Norm (q.take (j + 1)) := nrm_take_stop q j (by omega) hz
  have hpos := Dig.norm_pos (b := LB) hnorm (by rw [List.length_take]; omega)
  have h1 : 1 ≤ LB ^ ((q.take (j + 1)).length - 1) := Nat.one_le_pow _ _ LB_pos
  refine ⟨⟨q.take (j + 1), ?_, bq.take _, hv⟩, .inr (by omega), by omega, hb⟩
  rcases hown.2 with ⟨hv, h0⟩ | ⟨g, cap, cur, hv, _⟩
  · omega
  · injection hv with e1 _ _
    subst e1
    exact hown.take (by omega)

set_option maxHeartbeats 2000000 in
theorem putRows (B b n c N : Nat) (A : Option Addr) (l : List Nat) (w : World) (hown : Own w (b + 1) 23 .u64 A n c l) (bl : Dig.Below LB l) (hv : Dig.val LB l = N) (hn : n ≤ 1000000000000) (hbw : b + 1 ≤ w.heap.size) (hBb : B ≤ b)
    (hfr : Fresh b w) (hk : ∀ k, 1 ≤ mdiv N k → k ≤ 1000000) :
    Calls Tryd.prog 38 #[.pointer (some ⟨b, 0, none⟩), .slice A n c] w fun e w' => e = .returned (.tuple #[]) ∧ Bld B b (Lib.decDigits N) w' ∧ Below B w w' := by
  go_enter_defers Tryd.func38, Tryd.ntmps38
  go_wp2_with fail
  refine wp_loop (fun a' w' => ∃ (k : Nat) (A' : Option Addr) (n' c' : Nat) (v4 v5 v6 v7 v8 v9 v10 v11 v12 v13 v14 v15 v16 v17 v18 v19 v20 v21 v22 v23 v24 v25 v26 v27 v28 v29 v30 v31 : Value), RowsAt b N w k A' n' c' w' ∧
      a' = { tmps := #[.pointer (some ⟨b, 0, none⟩), .slice A' n' c', undef, undef, v4, v5, v6, v7, v8, v9, v10, v11, v12, v13, v14, v15, v16, v17, v18, v19, v20, v21, v22, v23, v24, v25, v26, v27, v28, v29, v30, v31], defers := (rowsL N k).map (putR b) })
    (fun a' _ => 1000001 - a'.defers.length) ⟨0, A, n, c, _, _, _, _, _, _, _, _, _, _, _, _, _, _, _, _, _, _, _, _, _, _, _, _, _, _, _, _, ⟨⟨l, hown, bl, hv⟩, .inl rfl, hn, Below.refl _ _⟩, rfl⟩ ?_
  rintro a' wr ⟨k, A', n', c', v4, v5, v6, v7, v8, v9, v10, v11, v12, v13, v14, v15, v16, v17, v18, v19, v20, v21, v22, v23, v24, v25, v26, v27, v28, v29, v30, v31, hst, rfl⟩
  obtain ⟨⟨l', hown', bl', hv'⟩, hmore, hn', hbel⟩ := hst
  clear hown bl hv hn
  have hsz := hbel.size
  have hdm := dvd_div TT_pos l'
  rw [hv'] at hdm
  have hrest := Lib.hid hdm.2
  have hquot : Hid (Dig.val LB (dvd TT l').1 = mdiv N (k + 1)) := hdm.1
  have bq := Lib.hid (dvd_below TT_pos bl')
  have hql : Hid ((dvd TT l').1.length = n') := by show _ = _; rw [dvd_length]; exact hown'.len.symm
  have Hmore := Lib.hid hmore
  have Hk := Lib.hid hk
  have Hfr := Lib.hid hfr
  have hcap := hown'.cap
  have hcm := hcap.2
  unfold maxLen at hcm
  have hdv := divideTT (b + 1) n' c' A' l' wr hown' bl' hn' (by omega)
  clear hdm hmore hk bl' hv' hfr hown'
  generalize (dvd TT l').2 = r at *
  generalize (dvd TT l').1 = q at *
  go_wp2_with (go_at_call 35; refine hdv.mono ?_; rintro e w1 ⟨rfl, hown1, hb1⟩)
  have hrow := hown1.row
  have HB := Lib.hid (hbel.trans hb1)
  have HO := Lib.hid hown1
  have HBW := Lib.hid hbw
  have hs1 := hb1.size
  clear hown1 hb1 hbel hdv hbw
  go_loop [1] (fun s => ∃ m : Nat, m ≤ n' ∧ Hid (Dig.nrm (q.take m) = Dig.nrm q) ∧ s = .slice A' m c') (fun s => match s with | .slice _ m _ => m | _ => 0)
  case atStart => exact ⟨n', Nat.le_refl _, by rw [List.take_of_length_le (by have := hql.out; omega)]; rfl, rfl⟩
  case round =>
    obtain ⟨m, hm, hnm, rfl⟩ := hrel
    rcases Nat.eq_zero_or_pos m with h0 | h0
    · subst h0
      have hz : Hid (mdiv N (k + 1) = 0) := by
        show _ = _
        rw [← hquot.out, ← Dig.val_nrm, ← hnm.out]
        rfl
      have hsmall : Hid (mdiv N k < TT) := by
        have h1 : mdiv N k / TT = 0 := hz.out
        exact Nat.lt_of_not_le fun h => by
          have := Nat.div_pos h TT_pos
          omega
      have hrk : Hid (r = mdiv N k) := by show _ = _; rw [hrest.out]; exact Nat.mod_eq_of_lt hsmall.out
      have hrl : Hid (r < LB) := by show _ < _; rw [hrk.out]; exact Nat.lt_trans hsmall.out TT_lt
      have hkb : Hid (k ≤ 1000000) := by
        show _ ≤ _
        rcases Hmore.out with h | h
        · omega
        · exact Hk.out k h
      have hBw : Hid (B ≤ w1.heap.size) := by have h := HBW.out; show _ ≤ _; omega
      go_wp2_with fail
      refine (putRow B b r (Lib.nDigits r) 1 [] w1 hrl.out (by omega) (by omega) (by have := nDigits_le r hrl.out; omega) (nDigits_iff r) ((Hfr.out.below HB.out).bld hBb) (by have := nDigits_le r hrl.out; simp; omega) hBw.out).mono ?_
      rintro e w2 ⟨rfl, hbl2, hb2⟩
      go_wp2_with fail
      refine leaves_rows B b (fun w => results_none rfl _ _ _) (rowsL N k) _ w2 hbl2 (rowsL_lt N k) ?_ (Nat.le_trans hBw.out hb2.size) fun w3 hbl3 hb3 => ⟨rfl, ?_, ((HB.out.mono (by omega)).trans hb2).trans hb3⟩
      · rw [rowsL_length, List.nil_append, digs_length]
        have := nDigits_le r hrl.out
        have := hkb.out
        omega
      · rw [List.nil_append, digs_dec, hrk.out] at hbl3
        rw [rows_text N k Hmore.out]
        exact hbl3
    · obtain ⟨j, rfl⟩ : ∃ j, m = j + 1 := ⟨m - 1, by omega⟩
      obtain ⟨ad, hA, hb, hcell⟩ := hrow.at_ (i := j) (by omega)
      subst hA
      by_cases hz : Dig.at_ q j = 0
      · have hcell0 : w1.cell? (ad.add j) = some (.int .u64 0) := by rw [hcell, hz]; rfl
        clear hcell
        have hz' := Lib.hid hz
        have hnx : Hid (Dig.nrm (q.take j) = Dig.nrm q) := by rw [← nrm_take_succ q j (by have := hql.out; omega) hz'.out]; exact hnm.out
        clear hz
        go_wp2_with fail
        go_round
        case rel => exact ⟨j, by omega, hnx, rfl⟩
        case measure => simp
      · have hz' : (((Dig.at_ q j : Nat) : Int) == 0) = false := by simpa using hz
        have hnext := Lib.hid (rows_next (k := k) (j := j) HO.out bq.out hquot.out (by omega) hn' hnm.out hz HB.out)
        clear hz
        have hkb : Hid (k ≤ 1000000) := by
          show _ ≤ _
          rcases Hmore.out with h | h
          · omega
          · exact Hk.out k h
        go_wp2_with fail
        refine ⟨⟨k + 1, some ad, j + 1, c', hnext.out, ⟨rfl, rfl, rfl⟩, by rw [hrest.out]; rfl⟩, ?_⟩
        rw [rowsL_length]
        have := hkb.out
        omega

set_option maxHeartbeats 1000000 in
theorem deciText {A : Option Addr} {n c N b0 : Nat} {w : World} (h : Num w b0 A n c N) (hn : n ≤ 1000) (hk : ∀ k, 1 ≤ mdiv N k → k ≤ 1000000) :
    Calls Tryd.prog 16 #[.agg #[.slice A n c]] w fun e w' => e = .returned (.string ⟨(Lib.decDigits N).toArray⟩) ∧ Below w.heap.size w w' := by
  obtain ⟨l, h1, h2, h3, h4, h5, h6, h7, h8⟩ := h
  go_enter Tryd.func16, Tryd.ntmps16
  have hb0 : Below w.heap.size w ((w.alloc (.cells #[.slice A n c] 26)).alloc (.cells #[.pointer none, .slice none 0 0] 67)) := by go_grown
  have hr0 := (h1.below hb0).more hb0.size
  have hf0 : Fresh (w.heap.size + 1) ((w.alloc (.cells #[.slice A n c] 26)).alloc (.cells #[.pointer none, .slice none 0 0] 67)) := by
    have h := heap_alloc_new (w.alloc (.cells #[.slice A n c] 26)) (.cells #[.pointer none, .slice none 0 0] 67)
    simpa [Fresh] using h
  have hs0 : ((w.alloc (.cells #[.slice A n c] 26)).alloc (.cells #[.pointer none, .slice none 0 0] 67)).heap.size = w.heap.size + 2 := by simp
  go_wp2_with fail
  generalize (w.alloc (.cells #[.slice A n c] 26)).alloc (.cells #[.pointer none, .slice none 0 0] 67) = W at *
  refine (natAll A n c l _ hr0 h5 (by omega)).mono ?_
  rintro e w1 ⟨A1, c1, rfl, hown1, hb1, _⟩
  have hs1 := hb1.size
  go_wp2_with fail
  refine (putRows (w.heap.size + 1) (w.heap.size + 1) n c1 N A1 l w1 (hown1.mono (by omega)) h3 h4 (by omega) (by omega) (Nat.le_refl _) (hf0.below (hb1.mono (by omega))) hk).mono ?_
  rintro e w2 ⟨rfl, hbl2, hb2⟩
  have hs2 := hb2.size
  go_wp2_with fail
  refine (Tryd.Builder_String_any_k (w.heap.size + 1) (w.heap.size + 1) (Lib.decDigits N) w2 hbl2 (by omega)).mono ?_
  rintro e w3 ⟨rfl, _, hb3, _⟩
  go_wp2_with fail
  go_ret
  exact ⟨rfl, ((hb0.trans (hb1.mono (by omega))).trans (hb2.mono (by omega))).trans (hb3.mono (by omega))⟩

theorem mdiv_bound {N n : Nat} (h : N < LB ^ n) (hn : n ≤ 1000) : ∀ k, 1 ≤ mdiv N k → k ≤ 1000000 := by
  intro k hk
  rw [mdiv_eq, Nat.succ_le_iff, Nat.div_pos_iff] at hk
  have h1 : LB ^ n ≤ (TT ^ 2) ^ n := Nat.pow_le_pow_left (by unfold LB TT; omega) n
  rw [← Nat.pow_mul] at h1
  have h2 : TT ^ k < TT ^ (2 * n) := Nat.lt_of_le_of_lt hk.2 (Nat.lt_of_lt_of_le h h1)
  have h3 := (Nat.pow_lt_pow_iff_right (a := TT) (by unfold TT; omega)).1 h2
  omega
theorem Num.text {A : Option Addr} {n c N b0 : Nat} {w : World} (h : Num w b0 A n c N) (hn : n ≤ 1000) :
    Calls Tryd.prog 16 #[.agg #[.slice A n c]] w fun e w' => e = .returned (.string ⟨(Lib.decDigits N).toArray⟩) ∧ Below w.heap.size w w' := by
  refine deciText h hn (mdiv_bound (n := n) ?_ hn)
  obtain ⟨l, h1, h2, h3, h4, _⟩ := h
  rw [← h4, h1.len]
  exact Dig.val_lt h3

theorem nDigits_lt {N n : Nat} (h : N < LB ^ n) (hn : n ≤ 1000) : Lib.nDigits N ≤ 1000000 := by
  rcases Nat.lt_or_ge 1000000 (Lib.nDigits N) with h1 | h1
  · have h2 := (nDigits_iff N 1000000).1 h1
    rcases h2 with h2 | h2
    · omega
    · rw [Nat.div_pos_iff] at h2
      have h3 : LB ^ n ≤ (10 ^ 20) ^ n := Nat.pow_le_pow_left (by unfold LB; decide) n
      rw [← Nat.pow_mul] at h3
      have h4 := (Nat.pow_lt_pow_iff_right (a := 10) (by omega)).1 (Nat.lt_of_le_of_lt h2.2 (Nat.lt_of_lt_of_le h h3))
      omega
  · exact h1
theorem size_list (l : List UInt8) : (⟨l.toArray⟩ : ByteArray).size = l.length := by simp [ByteArray.size]

set_option maxHeartbeats 400000 in
theorem Num.digits {A : Option Addr} {n c N b0 : Nat} {w : World} (h : Num w b0 A n c N) (hn : n ≤ 1000) :
    Calls Tryd.prog 17 #[.agg #[.slice A n c]] w fun e w' => e = .returned (.int .i64 ((Lib.nDigits N : Nat) : Int)) ∧ Below w.heap.size w w' := by
  have hb0 : Below w.heap.size w (w.alloc (.cells #[.slice A n c] 26)) := by go_grown
  have ht := (h.alloc (.cells #[.slice A n c] 26)).text hn
  have hlen : Hid ((⟨(Lib.decDigits N).toArray⟩ : ByteArray).size = Lib.nDigits N) := by show _ = _; rw [size_list, Lib.decDigits_length]
  generalize (⟨(Lib.decDigits N).toArray⟩ : ByteArray) = S at *
  go_enter Tryd.func17, Tryd.ntmps17
  go_wp2_with fail
  refine ht.mono ?_
  rintro e w1 ⟨rfl, hb1⟩
  go_wp2_with fail
  go_ret
  have hs0 : w.heap.size < (w.alloc (.cells #[.slice A n c] 26)).heap.size := by simp
  exact ⟨by rw [hlen.out]; rfl, hb0.trans (hb1.mono (by omega))⟩
end Go.Proofs.YthcglobehoaocaaDoor
