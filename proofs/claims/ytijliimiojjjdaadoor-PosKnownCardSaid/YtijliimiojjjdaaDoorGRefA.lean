/- The contracts of the reference's small functions: trim, at, Of. A row that grows by appends of one number; the reference's Of. -/
import Derived.Test.YtijliimiojjjdaaDoorGMath
import Derived.Deep.LoopGhost
namespace Go.Proofs.YtijliimiojjjdaaDoor
section
open Go.RowKit

/-- A number of the reference's: a row of bytes without noughts at its end. -/
def RNum (w : World) (base : Nat) (A : Option Addr) (n c N : Nat) : Prop :=
  ∃ l, Row w w.heap.size .u8 A n l ∧ Dig.Norm l ∧ Dig.Below 256 l ∧ Dig.val 256 l = N ∧ n ≤ c ∧ c ≤ maxLen ∧ ∀ ad, A = some ad → base ≤ ad.block

section
variable {w w' : World} {n c N base : Nat} {A : Option Addr}
theorem RNum.below (h : RNum w base A n c N) (hb : Below w.heap.size w w') : RNum w' base A n c N := by
  obtain ⟨l, h1, h2⟩ := h
  exact ⟨l, (h1.below hb).more hb.size, h2⟩
theorem RNum.alloc (h : RNum w base A n c N) (o : Obj) : RNum (w.alloc o) base A n c N := h.below ((Below.refl _ _).alloc (Nat.le_refl _) o)
theorem RNum.zero (w : World) (base : Nat) : RNum w base none 0 0 0 := ⟨[], Reads.none_, Dig.norm_nil, Dig.Below.nil _, rfl, Nat.le_refl _, by unfold maxLen; omega, fun _ h => by cases h⟩
theorem RNum.mono {base' : Nat} (h : RNum w base A n c N) (hb : base' ≤ base) : RNum w base' A n c N := by
  obtain ⟨l, h1, h2, h3, h4, h5, h6, h7⟩ := h
  exact ⟨l, h1, h2, h3, h4, h5, h6, fun ad ha => Nat.le_trans hb (h7 ad ha)⟩
theorem RNum.setCell (h : RNum w base A n c N) {p : Addr} (hp : p.block < base) (u : Value) : RNum (w.setCell p u) base A n c N := by
  obtain ⟨l, h1, h2, h3, h4, h5, h6, h7⟩ := h
  have e : (w.setCell p u).heap.size = w.heap.size := by simp [World.setCell]
  exact ⟨l, by rw [e]; exact h1.setCell (fun ad ha => by have := h7 ad ha; omega) u, h2, h3, h4, h5, h6, h7⟩
end

theorem nrm_take_succ8 (l : List Nat) (k : Nat) (hk : k < l.length) (h : Dig.at_ l k = 0) : Dig.nrm (l.take (k + 1)) = Dig.nrm (l.take k) := by
  rw [List.take_succ_eq_append_getElem hk]
  rw [Dig.at_lt hk] at h
  rw [h, Dig.nrm_snoc_zero]
theorem nrm_take_stop8 (l : List Nat) (k : Nat) (hk : k < l.length) (h : Dig.at_ l k ≠ 0) : Dig.nrm (l.take (k + 1)) = l.take (k + 1) := by
  rw [List.take_succ_eq_append_getElem hk]
  rw [Dig.at_lt hk] at h
  rw [Dig.nrm_snoc _ _ h]

set_option maxHeartbeats 1000000 in
theorem refTrim (A : Option Addr) (n c : Nat) (l : List Nat) (w : World) (hr : Row w w.heap.size .u8 A n l) (hn : n ≤ 1000000000000) :
    Calls Tryd.prog 56 #[.slice A n c] w fun e w' => ∃ A' c', e = .returned (.slice A' (Dig.nrm l).length c') ∧ Row w' w'.heap.size .u8 A' (Dig.nrm l).length (Dig.nrm l) ∧ (Dig.nrm l).length ≤ c' ∧ c' ≤ maxLen ∧ (∀ ad, A' = some ad → w.heap.size ≤ ad.block) ∧ Below w.heap.size w w' := by
  obtain ⟨i0, hi0, hz0, hz1, hz2⟩ := info_parts info_u8
  have hl := Lib.hid hr.len
  go_enter Tryd.func56, Tryd.ntmps56
  go_wp2_with (first
    | (at_builtin
       refine wpList_append_any _ rfl (.tmp 4) (.tmp 5) _ rfl w.heap.size 5 i0 _ 1 1 Tryd.underlying76 hi0 hz0 hz1 hz2 rfl (by omega) (.slice none 0 0) 0 [] rfl (World.ownsRow_nil _ _ _ _) w.heap.size A n c (ints .u8 l) rfl hr (ints_oneCell _ _) (by unfold maxLen; omega) (by omega) (Nat.le_refl _) ?_
       intro v1 w1 hown1 hg1 hat1))
  obtain ⟨A1, c1, rfl, hown⟩ := Own.of (k := .u8) (l := l) (by simpa using hown1)
  have hb1 : Below w.heap.size w w1 := (Below.refl _ _).grown hg1 (Nat.le_refl _) (by simp [Value.ownBlock])
  have hcap := hown.cap
  have hrow := hown.row
  have hge := hown.ge
  have hm := hcap.2
  unfold maxLen at hm
  clear hown1 hg1 hat1 hown hr
  have HB := Lib.hid hb1
  have HG := Lib.hid hge
  clear hb1 hge
  go_loop [3] (fun s => ∃ k : Nat, k ≤ n ∧ Hid (Dig.nrm (l.take k) = Dig.nrm l) ∧ s = .slice A1 k c1) (fun s => match s with | .slice _ k _ => k | _ => 0)
  case atStart => exact ⟨n, Nat.le_refl _, by rw [List.take_of_length_le (by have := hl.out; omega)]; rfl, rfl⟩
  case round =>
    obtain ⟨k, hk, hn', rfl⟩ := hrel
    rcases Nat.eq_zero_or_pos k with h0 | h0
    · subst h0
      have hz : Hid (Dig.nrm l = []) := by rw [← hn'.out]; rfl
      go_wp2
      go_ret
      exact ⟨A1, c1, by rw [hz.out]; rfl, by rw [hz.out]; exact hrow.take (Nat.zero_le _), by rw [hz.out]; exact Nat.zero_le _, hcap.2, HG.out, HB.out⟩
    · obtain ⟨j, rfl⟩ : ∃ j, k = j + 1 := ⟨k - 1, by omega⟩
      obtain ⟨ad, hA, hb, hcell⟩ := hrow.at_ (i := j) (by omega)
      subst hA
      by_cases hz : Dig.at_ l j = 0
      · have hcell0 : w1.cell? (ad.add j) = some (.int .u8 0) := by rw [hcell, hz]; rfl
        clear hcell
        have hz' := Lib.hid hz
        have hnx : Hid (Dig.nrm (l.take j) = Dig.nrm l) := by rw [← nrm_take_succ8 l j (by have := hl.out; omega) hz'.out]; exact hn'.out
        clear hz
        go_wp2
        go_round
        case rel => exact ⟨j, by omega, hnx, rfl⟩
        case measure => simp
      · have hz' : (((Dig.at_ l j : Nat) : Int) == 0) = false := by simpa using hz
        have hst : Hid (Dig.nrm l = l.take (j + 1)) := by rw [← hn'.out]; exact nrm_take_stop8 l j (by have := hl.out; omega) hz
        have hlen : Hid ((Dig.nrm l).length = j + 1) := by show _ = _; rw [hst.out, List.length_take]; have := hl.out; omega
        go_wp2
        go_ret
        refine ⟨some ad, c1, by rw [hlen.out]; rfl, ?_, by rw [hlen.out]; omega, hcap.2, HG.out, HB.out⟩
        have := hrow.take (m := j + 1) (by omega)
        rw [← hst.out] at this
        rw [hlen.out]
        exact this

theorem refTrimN (A : Option Addr) (n c : Nat) (l : List Nat) (w : World) (hr : Row w w.heap.size .u8 A n l) (hb : Dig.Below 256 l) (hn : n ≤ 1000000000000) :
    Calls Tryd.prog 56 #[.slice A n c] w fun e w' => ∃ A' n' c', e = .returned (.slice A' n' c') ∧ RNum w' w.heap.size A' n' c' (Dig.val 256 l) ∧ n' ≤ n ∧ Below w.heap.size w w' := by
  have hl := hr.len
  refine (refTrim A n c l w hr hn).mono ?_
  rintro e w' ⟨A', c', rfl, h1, h2, h3, h4, h5⟩
  exact ⟨A', _, c', rfl, ⟨_, h1, Dig.norm_nrm l, hb.nrm, Dig.val_nrm _ _, h2, h3, h4⟩, by have := Dig.nrm_length_le l; omega, h5⟩

set_option maxHeartbeats 400000 in
theorem refAt (A : Option Addr) (n c i : Nat) (l : List Nat) (w : World) (hr : Row w w.heap.size .u8 A n l) (hb : Dig.Below 256 l) :
    Calls Tryd.prog 67 #[.slice A n c, .int .i64 i] w fun e w' => e = .returned (.int .i64 ((Dig.at_ l i : Nat) : Int)) ∧ w = w' := by
  by_cases h : i < n
  · obtain ⟨ad, rfl, hadb, hcell⟩ := hr.at_ h
    have hlt := Dig.at_below (by omega) hb i
    have hlt' : ((Dig.at_ l i : Nat) : Int) < 256 := by omega
    go_enter Tryd.func67, Tryd.ntmps67
    go_wp2
    go_ret
    exact ⟨rfl, rfl⟩
  · have hz : Hid (((Dig.at_ l i : Nat) : Int) = 0) := by rw [Dig.at_ge (by have := hr.len; omega)]; rfl
    go_enter Tryd.func67, Tryd.ntmps67
    go_wp2
    go_ret
    exact ⟨by rw [hz.out]; rfl, rfl⟩
end

section
open Go.RowKit

/-- A row of the call's own, of numbers L; nothing that stood before has turned. -/
def Grow (w : World) (e : TypeId) (k : IntKind) (v : Value) (L : List Nat) (wr : World) : Prop := wr.ownsRow w.heap.size e 1 v L.length (ints k L) ∧ Below w.heap.size w wr
theorem Grow.start (w : World) (e : TypeId) (k : IntKind) : Grow w e k (.slice none 0 0) [] w := ⟨World.ownsRow_nil _ _ _ _, Below.refl _ _⟩
theorem Grow.parts {w wr : World} {e : TypeId} {k : IntKind} {v : Value} {L : List Nat} (h : Grow w e k v L wr) : ∃ A c, v = .slice A L.length c ∧ Own wr w.heap.size e k A L.length c L := Own.of h.1
theorem Grow.drew {w wr : World} {e : TypeId} {k : IntKind} {v : Value} {L : List Nat} (h : Grow w e k v L wr) : Grow w e k v L wr.drew := ⟨h.1, h.2.drew⟩
theorem Grow.later {w wr w' : World} {e : TypeId} {k : IntKind} {v : Value} {L : List Nat} (h : Grow w e k v L wr) (hb : Below wr.heap.size wr w') : Grow w e k v L w' :=
  ⟨h.1.kept (row := none) ⟨hb.os, hb.tape, hb.output, hb.size, fun i hi _ => hb.block i hi⟩ (by cases hv : v.ownBlock <;> simp), h.2.trans (hb.mono h.2.size)⟩

theorem wpList_push {P : Program} {ops : Array Oper} {rest : List Oper} {o : Oper} {a : Act} {Q : Exit → Act → World → Prop} (hgd : o.guard = none) (s x : Operand) (t : TypeId)
    (ho : o.op = .call { callee := .builtin .append, args := #[s, x], argTypes := #[t, t] }) (e : TypeId) (k : IntKind) (bytes : Nat) (ht : P.underlying t = some (.slice e))
    (hi : (P.info? e).map (fun i => (i.zero, i.size, i.bytes)) = some (some (.int k 0), 1, bytes)) (hby : bytes ≤ 8)
    (v : Value) (L : List Nat) (y : Nat) (z : Int) (w0 wr : World) (hs : a.eval s = v) (hg : Grow w0 e k v L wr) (hx : a.eval x = .slice (some ⟨wr.heap.size, 0, none⟩) 1 1) (hz : z = (y : Int)) (hlen : L.length ≤ 1000000000000)
    (h : ∀ v' w1, Grow w0 e k v' (L ++ [y]) w1 → wpList P ops Q rest (a.put o.dst v') w1) : wpList P ops Q (o :: rest) a (wr.alloc (.cells #[.int k z] e)) := by
  subst hz
  obtain ⟨i0, hi0, hz0, hz1, hz2⟩ := info_parts hi
  have hr : Reads (wr.alloc (.cells #[.int k (y : Int)] e)) (wr.heap.size + 1) 1 (some ⟨wr.heap.size, 0, none⟩) 1 (ints k [y]) :=
    ⟨by simp [ints], fun _ => ⟨_, rfl, by simp, fun j u hu => by
      match j with
      | 0 => simp [ints] at hu; subst hu; simp [Addr.add]
      | j + 1 => simp [ints] at hu⟩⟩
  have hsz := hg.2.size
  have hb : bytes * (L.length + 1) ≤ 8 * (L.length + 1) := Nat.mul_le_mul_right _ hby
  refine wpList_append_any _ hgd s x t ho w0.heap.size e i0 _ 1 bytes ht hi0 hz0 hz1 hz2 rfl (by omega) v L.length (ints k L) hs (hg.1.alloc _) (wr.heap.size + 1) (some ⟨wr.heap.size, 0, none⟩) 1 1 (ints k [y]) hx hr (ints_oneCell _ _)
    (by unfold maxLen; omega) (by rw [Nat.mul_comm]; omega) (by simp; omega) ?_
  intro v' w1 hown' hg' _
  refine h v' w1 ⟨by simpa [ints] using hown', (hg.2.alloc hsz _).grown hg' (by simp; omega) (fun g hgk => (hg.1.lt g hgk).1)⟩

/-- The first k bytes of a limb. -/
def byt (x : Nat) : Nat → List Nat
  | 0 => []
  | k + 1 => byt x k ++ [x / 256 ^ k % 256]
theorem byt_length (x k : Nat) : (byt x k).length = k := by induction k with | zero => rfl | succ k ih => simp [byt, ih]
theorem byt_below (x k : Nat) : Dig.Below 256 (byt x k) := by
  induction k with
  | zero => exact Dig.Below.nil _
  | succ k ih => exact ih.append (Dig.Below.cons (Nat.mod_lt _ (by omega)) (Dig.Below.nil _))
theorem byt_val (x k : Nat) : Dig.val 256 (byt x k) = x % 256 ^ k := by
  induction k with
  | zero => simp [byt, Dig.val, Nat.mod_one]
  | succ k ih => simp only [byt]; rw [Dig.val_snoc, byt_length, ih, Nat.pow_succ, Nat.mod_mul]
/-- The bytes of limbs. -/
def bytes : List Nat → List Nat
  | [] => []
  | x :: r => byt x 8 ++ bytes r
theorem bytes_snoc (l : List Nat) (x : Nat) : bytes (l ++ [x]) = bytes l ++ byt x 8 := by
  induction l with
  | nil => simp [bytes]
  | cons y r ih => simp [bytes, ih]
theorem bytes_length (l : List Nat) : (bytes l).length = 8 * l.length := by
  induction l with
  | nil => rfl
  | cons y r ih => simp [bytes, byt_length, ih]; omega
theorem bytes_below (l : List Nat) : Dig.Below 256 (bytes l) := by
  induction l with
  | nil => exact Dig.Below.nil _
  | cons y r ih => exact (byt_below y 8).append ih
theorem bytes_val (l : List Nat) (h : Dig.Below LB l) : Dig.val 256 (bytes l) = Dig.val LB l := by
  induction l with
  | nil => rfl
  | cons y r ih =>
    have hy := h.head
    simp only [bytes]
    rw [Dig.val_append, byt_length, byt_val, ih h.tail, Dig.val_cons]
    have e : (256 : Nat) ^ 8 = LB := by unfold LB; rfl
    rw [e, Nat.mod_eq_of_lt hy]

theorem u64_div (y : Nat) : Value.int .u64 ((y : Int) / 256) = Value.int .u64 ((y / 256 : Nat) : Int) := by rw [Int.natCast_ediv]; rfl

set_option maxHeartbeats 1000000 in
theorem refOf (A : Option Addr) (n c : Nat) (l : List Nat) (w : World) (hr : Row w w.heap.size .u64 A n l) (bl : Dig.Below LB l) (hn : n ≤ 10000000000) :
    Calls Tryd.prog 47 #[.slice A n c] w fun e w' => ∃ A' n' c', e = .returned (.slice A' n' c') ∧ RNum w' w.heap.size A' n' c' (Dig.val LB l) ∧ n' ≤ 8 * n ∧ Below w.heap.size w w' := by
  have hl := Lib.hid hr.len
  go_enter Tryd.func47, Tryd.ntmps47
  go_wp2_with fail
  go_loopw [3, 4] (fun v i wr => ∃ j : Nat, j ≤ n ∧ i = .int .i64 j ∧ Grow w 5 .u8 v (bytes (l.take j)) wr) (fun _ i _ => n - (intOf i).toNat)
  case atStart => exact ⟨0, by omega, rfl, by simpa [bytes] using Grow.start w _ _⟩
  case round =>
    obtain ⟨j, hj, rfl, hg⟩ := hrel
    by_cases hlt : j < n
    · obtain ⟨ad, rfl, hadb, hcell⟩ := (hr.below hg.2).at_ hlt
      have hlen : Hid ((bytes (l.take j)).length = 8 * j) := by show _ = _; rw [bytes_length, List.length_take]; have := hl.out; omega
      have hsucc : Hid (bytes (l.take (j + 1)) = bytes (l.take j) ++ byt (Dig.at_ l j) 8) := by
        show _ = _
        rw [List.take_succ_eq_append_getElem (by have := hl.out; omega), bytes_snoc, Dig.at_lt]
      go_wp2_with fail
      obtain ⟨wo, rfl⟩ : ∃ wo : World, wo = wr := ⟨_, rfl⟩
      go_loopw [3, 5, 6] (fun v y i wr => ∃ k : Nat, k ≤ 8 ∧ i = .int .i64 k ∧ y = .int .u64 ((Dig.at_ l j / 256 ^ k : Nat) : Int) ∧ Grow w 5 .u8 v (bytes (l.take j) ++ byt (Dig.at_ l j) k) wr) (fun _ _ i _ => 8 - (intOf i).toNat)
      case atStart => exact ⟨0, by omega, rfl, by simp, by simpa [byt] using hg⟩
      case round =>
        obtain ⟨k, hk, rfl, rfl, hg1⟩ := hrel
        by_cases hlt2 : k < 8
        · have hlen2 : (bytes (l.take j) ++ byt (Dig.at_ l j) k).length ≤ 1000000000000 := by rw [List.length_append, byt_length, hlen.out]; omega
          have hdv : Hid (Dig.at_ l j / 256 ^ (k + 1) = Dig.at_ l j / 256 ^ k / 256) := by show _ = _; rw [Nat.pow_succ, Nat.div_div_eq_div_mul]
          have hap : Hid (bytes (l.take j) ++ byt (Dig.at_ l j) (k + 1) = bytes (l.take j) ++ byt (Dig.at_ l j) k ++ [Dig.at_ l j / 256 ^ k % 256]) := by show _ = _; rw [List.append_assoc]; rfl
          have hyb : ((Dig.at_ l j / 256 ^ k : Nat) : Int) < 18446744073709551616 := by
            have h1 := Dig.at_below LB_pos bl j
            have h2 := Nat.div_le_self (Dig.at_ l j) (256 ^ k)
            unfold LB at h1
            omega
          generalize Dig.at_ l j / 256 ^ k = y at *
          have hfin : Hid (Value.int .u64 ((y : Int) / 256) = Value.int .u64 ((Dig.at_ l j / 256 ^ (k + 1) : Nat) : Int)) := (u64_div y).trans (congrArg (fun n : Nat => Value.int .u64 (n : Int)) hdv.out.symm)
          have hw : IntKind.u64.wrap ((y : Int) / 256) = (y : Int) / 256 := by rw [IntKind.wrap_u64]; omega
          clear hdv hyb
          go_wp2_with (first
            | (at_builtin
               refine wpList_push rfl (.tmp 21) (.tmp 25) _ rfl 5 .u8 1 Tryd.underlying76 info_u8 (by omega) _ _ (y % 256) _ w _ rfl hg1 rfl ?hz hlen2 ?_
               case hz => omega
               intro v1 w1 hg2))
          refine ⟨⟨k + 1, by omega, by go_num, ?_, by rw [hap.out]; exact hg2⟩, by simp [intOf]; omega⟩
          exact hfin.out
        · obtain rfl : k = 8 := by omega
          clear hg
          go_wp2_with fail
          refine ⟨⟨j + 1, by omega, by go_num, by rw [hsucc.out]; exact hg1⟩, by simp [intOf]; omega⟩
    · obtain rfl : j = n := by omega
      have ht : Hid (l.take j = l) := List.take_of_length_le (by have := hl.out; omega)
      obtain ⟨A1, c1, hv, hown⟩ := hg.parts
      have hlen : (bytes (l.take j)).length = 8 * j := by rw [bytes_length, List.length_take]; have := hl.out; omega
      rw [hlen] at hv hown
      subst hv
      clear hlen
      have hrow := hown.row
      have hb := hg.2
      go_wp2_with fail
      refine (refTrimN A1 (8 * j) c1 (bytes (l.take j)) _ hrow (bytes_below _) (by omega)).mono ?_
      rintro e w1 ⟨A2, n2, c2, rfl, hnum, hn2, hb2⟩
      go_wp2_with fail
      go_ret
      rw [bytes_val _ (bl.take j), ht.out] at hnum
      exact ⟨A2, n2, c2, rfl, hnum.mono hb.size, by omega, hb.trans (hb2.mono hb.size)⟩
end
end Go.Proofs.YtijliimiojjjdaaDoor
