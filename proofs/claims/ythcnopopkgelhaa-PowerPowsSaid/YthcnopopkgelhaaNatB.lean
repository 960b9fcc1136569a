/- The contracts of nat's Small, Of, of cmp.Compare, of nat's Cmp. -/
import Derived.Test.YthcnopopkgelhaaNatA
import Derived.Deep.QuietTactic
import Derived.BigQuiet
namespace Go.Proofs.Ythcnopopkgelhaa
open Go.RowKit

theorem Num.small {w : World} {base : Nat} {A : Option Addr} {n c N : Nat} (h : Num w base A n c N) (hn : n ≤ 1) : ∃ l, Row w w.heap.size .u64 A n l ∧ Dig.at_ l 0 = N := by
  obtain ⟨l, hr, h1, h2, h3, _⟩ := h
  refine ⟨l, hr, ?_⟩
  have hl := hr.len
  match l, hl with
  | [], _ => rw [← h3]; rfl
  | [x], _ => rw [← h3]; simp [Dig.at_, Dig.val]
  | _ :: _ :: _, hl => simp at hl; omega

set_option maxHeartbeats 400000 in
theorem natSmall_yes (A : Option Addr) (n c N base : Nat) (w : World) (h : Num w base A n c N) (hn : n ≤ 1) :
    Calls Try.prog 22 #[.agg #[.slice A n c]] w fun e w' => e = .returned (.tuple #[.int .u64 N, .bool true]) ∧ Below w.heap.size w w' := by
  obtain ⟨l, hr, hv⟩ := (h.alloc (.cells #[.slice A n c] 29)).small hn
  have hN : (N : Int) = ((Dig.at_ l 0 : Nat) : Int) := by rw [hv]
  have HN := Lib.hid hN
  clear hN
  go_enter Try.func22, Try.ntmps22
  go_wp2_with fail
  refine (natLimb A n c 0 l _ hr).mono ?_
  rintro e w1 ⟨rfl, hb⟩
  go_wp2_with fail
  go_ret2
  have hs0 : w.heap.size < (w.alloc (.cells #[.slice A n c] 29)).heap.size := by simp
  exact ⟨by rw [HN.out]; rfl, ((Below.refl _ _).alloc (Nat.le_refl _) _).trans (hb.mono (Nat.le_of_lt hs0))⟩

set_option maxHeartbeats 400000 in
theorem natSmall_no (A : Option Addr) (n c : Nat) (w : World) (hn : 1 < n) :
    Calls Try.prog 22 #[.agg #[.slice A n c]] w fun e w' => e = .returned (.tuple #[.int .u64 0, .bool false]) ∧ Below w.heap.size w w' := by
  go_enter Try.func22, Try.ntmps22
  go_wp2_with fail
  go_ret2
  exact ⟨rfl, (Below.refl _ _).alloc (Nat.le_refl _) _⟩

set_option maxHeartbeats 400000 in
theorem natOf (x : Nat) (hx : x < LB) (w : World) :
    Calls Try.prog 20 #[.int .u64 x] w fun e w' => ∃ A' n' c', e = .returned (.agg #[.slice A' n' c']) ∧ Num w' w.heap.size A' n' c' x ∧ n' ≤ 1 ∧ Below w.heap.size w w' := by
  have hbl : Dig.Below LB [x] := Dig.Below.cons hx (Dig.Below.nil _)
  have hval := Lib.hid (show Dig.val LB [x] = x by simp [Dig.val])
  have hrow : ∀ (w : World) (b : Nat), b = w.heap.size → Row (w.alloc (.cells #[.int .u64 x] 23)) (w.heap.size + 1) .u64 (some ⟨b, 0, none⟩) 1 [x] := fun w b hb =>
    ⟨by simp [ints], fun _ => ⟨_, rfl, by simp [hb], fun j u hu => by
      match j with
      | 0 => simp [ints] at hu; subst hu hb; simp [Addr.add]
      | j + 1 => simp [ints] at hu⟩⟩
  go_enter Try.func20, Try.ntmps20
  go_wp2_with fail
  refine (natLimbs _ 1 1 [x] _ (by simpa using hrow (w.alloc _) _ (by simp)) hbl (Nat.le_refl _) (by unfold maxLen; omega) (by omega)).mono ?_
  rintro e w1 ⟨A1, n1, c1, rfl, hnum, hn1, hb⟩
  obtain ⟨hc0, hf0⟩ := bcell1 (b := w.heap.size) (o := 0) hb (v := .slice none 0 0) (by simp [go_sem]) (by simp [go_sem])
  go_wp2_with fail
  refine bodyPost_ret (v := .agg #[.slice A1 n1 c1]) (by simp [results, Try.results20, go_sem, hc0]) rfl ?_
  have hs0 : w.heap.size + 1 ≤ ((w.alloc (.cells #[.slice none 0 0] 29)).alloc (.cells #[.int .u64 x] 23)).heap.size := by simp
  rw [hval.out] at hnum
  exact ⟨A1, n1, c1, rfl, ((hnum.mono hs0).setCell (Nat.lt_succ_self _) _).mono (Nat.le_succ _), hn1, ((((Below.refl _ _).alloc (Nat.le_refl _) _).alloc (by simp) _).trans (hb.mono (Nat.le_of_lt hs0))).setCell (Nat.le_refl _) _⟩

theorem isNaNInt (x : Int) (w : World) : Calls Try.prog 59 #[.int .i64 x] w fun e w' => e = .returned (.bool false) ∧ w = w' := by
  go_enter Try.func59, Try.ntmps59
  go_wp2_with fail
  go_ret
  exact ⟨rfl, rfl⟩
theorem isNaNU64 (x : Int) (w : World) : Calls Try.prog 60 #[.int .u64 x] w fun e w' => e = .returned (.bool false) ∧ w = w' := by
  go_enter Try.func60, Try.ntmps60
  go_wp2_with fail
  go_ret
  exact ⟨rfl, rfl⟩

/-- How two numbers are compared. -/
def cmpI (a b : Nat) : Int := if a < b then -1 else if a = b then 0 else 1
theorem cmpI_lt {a b : Nat} (h : a < b) : cmpI a b = -1 := by rw [cmpI, if_pos h]
theorem cmpI_eq {a b : Nat} (h : a = b) : cmpI a b = 0 := by rw [cmpI, if_neg (by omega), if_pos h]
theorem cmpI_gt {a b : Nat} (h : b < a) : cmpI a b = 1 := by rw [cmpI, if_neg (by omega), if_neg (by omega)]

set_option maxHeartbeats 400000 in
theorem compareInt (a b : Nat) (w : World) : Calls Try.prog 44 #[.int .i64 a, .int .i64 b] w fun e w' => e = .returned (.int .i64 (cmpI a b)) ∧ w = w' := by
  rcases Nat.lt_trichotomy a b with h | h | h
  · have hv := Lib.hid (cmpI_lt h)
    go_enter Try.func44, Try.ntmps44
    go_wp2_with (first | (go_at_call 59; refine (isNaNInt _ _).mono ?_; rintro e w' ⟨rfl, rfl⟩))
    go_ret
    exact ⟨by rw [hv.out]; rfl, rfl⟩
  · have hv := Lib.hid (cmpI_eq h)
    subst h
    go_enter Try.func44, Try.ntmps44
    go_wp2_with (first | (go_at_call 59; refine (isNaNInt _ _).mono ?_; rintro e w' ⟨rfl, rfl⟩))
    go_ret
    exact ⟨by rw [hv.out]; rfl, rfl⟩
  · have hv := Lib.hid (cmpI_gt h)
    have h2 : ¬ a < b := by omega
    go_enter Try.func44, Try.ntmps44
    go_wp2_with (first | (go_at_call 59; refine (isNaNInt _ _).mono ?_; rintro e w' ⟨rfl, rfl⟩))
    go_ret
    exact ⟨by rw [hv.out]; rfl, rfl⟩

set_option maxHeartbeats 400000 in
theorem compareU64 (a b : Nat) (w : World) : Calls Try.prog 45 #[.int .u64 a, .int .u64 b] w fun e w' => e = .returned (.int .i64 (cmpI a b)) ∧ w = w' := by
  rcases Nat.lt_trichotomy a b with h | h | h
  · have hv := Lib.hid (cmpI_lt h)
    go_enter Try.func45, Try.ntmps45
    go_wp2_with (first | (go_at_call 60; refine (isNaNU64 _ _).mono ?_; rintro e w' ⟨rfl, rfl⟩))
    go_ret
    exact ⟨by rw [hv.out]; rfl, rfl⟩
  · have hv := Lib.hid (cmpI_eq h)
    subst h
    go_enter Try.func45, Try.ntmps45
    go_wp2_with (first | (go_at_call 60; refine (isNaNU64 _ _).mono ?_; rintro e w' ⟨rfl, rfl⟩))
    go_ret
    exact ⟨by rw [hv.out]; rfl, rfl⟩
  · have hv := Lib.hid (cmpI_gt h)
    have h2 : ¬ a < b := by omega
    go_enter Try.func45, Try.ntmps45
    go_wp2_with (first | (go_at_call 60; refine (isNaNU64 _ _).mono ?_; rintro e w' ⟨rfl, rfl⟩))
    go_ret
    exact ⟨by rw [hv.out]; rfl, rfl⟩

theorem quiet_left {P : Program} {f : FuncId} {args : Array Value} {w : World} {n : Nat} {v : Value}
    (h : Calls P f args (w.drewN n) fun e w' => e = .returned v ∧ w.drewN n = w') : Calls P f args (w.drewN n) fun e w' => e = .returned v ∧ ∃ m, w' = w.drewN m :=
  h.mono fun _ _ ⟨he, hm⟩ => ⟨he, n, hm.symm⟩
theorem quiet_add_left {P : Program} {f : FuncId} {args : Array Value} {w : World} {a n : Nat} {v : Value}
    (h : Calls P f args (w.drewN (a + n)) fun e w' => e = .returned v ∧ w.drewN (a + n) = w') : Calls P f args (w.drewN (a + n)) fun e w'' => e = .returned v ∧ ∃ m, w'' = w.drewN (a + m) :=
  h.mono fun _ _ ⟨he, hm⟩ => ⟨he, n, hm.symm⟩
theorem below_drewN {B : Nat} {a w : World} (h : Below B a w) (n : Nat) : Below B a (w.drewN n) := ⟨h.os, h.tape, h.output, h.size, h.block⟩

set_option maxHeartbeats 1000000 in
theorem natCmp_rows (A A' : Option Addr) (n c n' c' M N : Nat) (l m : List Nat) (w : World) (hr : Row w w.heap.size .u64 A n l) (hs : Row w w.heap.size .u64 A' n' m) (hc : n ≤ maxLen)
    (hlen : n < n' → Hid (cmpI M N = -1)) (hlen2 : n' < n → Hid (cmpI M N = 1)) (hlow : ∀ k, k < n → k < n' → l.drop (k + 1) = m.drop (k + 1) → Dig.at_ l k < Dig.at_ m k → Hid (cmpI M N = -1))
    (hhigh : ∀ k, k < n → k < n' → l.drop (k + 1) = m.drop (k + 1) → Dig.at_ m k < Dig.at_ l k → Hid (cmpI M N = 1)) (hsame : l.drop 0 = m.drop 0 → Hid (cmpI M N = 0)) :
    Calls Try.prog 17 #[.agg #[.slice A n c], .agg #[.slice A' n' c']] w fun e w' => e = .returned (.int .i64 (cmpI M N)) ∧ Below w.heap.size w w' := by
  unfold maxLen at hc
  rcases Nat.lt_trichotomy n n' with h | h | h
  · have hv := hlen h
    have hcm := cmpI_lt h
    have hk := fun w => compareInt n n' w
    rw [hcm] at hk
    clear hcm hlen hlen2 hlow hhigh hsame
    go_enter Try.func17, Try.ntmps17
    go_wp2_with (first | (go_at_call 44; refine (hk _).mono ?_; rintro e w' ⟨rfl, rfl⟩))
    go_ret
    exact ⟨by rw [hv.out]; rfl, ((Below.refl _ _).alloc (Nat.le_refl _) _).alloc (by simp) _⟩
  · subst h
    have hk := fun w => compareInt n n w
    rw [cmpI_eq rfl] at hk
    clear hlen hlen2
    go_enter Try.func17, Try.ntmps17
    go_wp2_with (first | (go_at_call 44; refine (hk _).mono ?_; rintro e w' ⟨rfl, rfl⟩))
    have hW : Row ((w.alloc (.cells #[.slice A n c] 29)).alloc (.cells #[.slice A' n c'] 29)) w.heap.size .u64 A n l := (hr.alloc (Nat.le_refl _) _).alloc (by simp) _
    have hX : Row ((w.alloc (.cells #[.slice A n c] 29)).alloc (.cells #[.slice A' n c'] 29)) w.heap.size .u64 A' n m := (hs.alloc (Nat.le_refl _) _).alloc (by simp) _
    have hl := Lib.hid hr.len
    have hm := Lib.hid hs.len
    go_loopw [6] (fun i wr => ∃ z : Int, i = .int .i64 z ∧ -1 ≤ z ∧ z < n ∧ Hid (l.drop (z + 1).toNat = m.drop (z + 1).toNat) ∧ ∃ q, wr = ((w.alloc (.cells #[.slice A n c] 29)).alloc (.cells #[.slice A' n c'] 29)).drewN q) (fun i _ => (intOf i + 1).toNat)
    case atStart => exact ⟨_, rfl, by omega, by omega, by show _ = _; rw [List.drop_of_length_le (by have := hl.out; omega), List.drop_of_length_le (by have := hm.out; omega)], 0, rfl⟩
    case round =>
      obtain ⟨z, rfl, hz1, hz2, hd, q, rfl⟩ := hrel
      by_cases hz : 0 ≤ z
      · obtain ⟨j, rfl⟩ := Int.eq_ofNat_of_zero_le hz
        obtain ⟨ad, rfl, hb, hcell⟩ := hW.at_ (i := j) (by omega)
        obtain ⟨ad', rfl, hb', hcell'⟩ := hX.at_ (i := j) (by omega)
        have hd' : Hid (l.drop (j + 1) = m.drop (j + 1)) := hd
        clear hd hW hX
        rcases Nat.lt_trichotomy (Dig.at_ l j) (Dig.at_ m j) with h | h | h
        · have hv := hlow j (by omega) (by omega) hd'.out h
          have hq := fun w => compareU64 (Dig.at_ l j) (Dig.at_ m j) w
          rw [cmpI_lt h] at hq
          clear hlow hhigh hsame hk
          go_wp2_with fail
          go_quiet ((go_at_call 45; exact quiet_add_left (hq _)))
          go_wp2_with fail
          go_ret
          exact ⟨by rw [hv.out]; rfl, ((below_drewN (((Below.refl _ _).alloc (Nat.le_refl _) _).alloc (by simp) _) _))⟩
        · have hq := fun w => compareU64 (Dig.at_ l j) (Dig.at_ m j) w
          rw [cmpI_eq h] at hq
          have hd2 : Hid (l.drop j = m.drop j) := by
            show l.drop j = m.drop j
            rw [← List.getElem_cons_drop (show j < l.length by have := hl.out; omega), ← List.getElem_cons_drop (show j < m.length by have := hm.out; omega), hd'.out]
            rw [Dig.at_lt (by have := hl.out; omega), Dig.at_lt (by have := hm.out; omega)] at h
            rw [h]
          clear hlow hhigh hsame hk h
          go_wp2_with fail
          go_quiet ((go_at_call 45; exact quiet_add_left (hq _)))
          go_wp2_with fail
          go_roundw
          case rel => exact ⟨_, rfl, by omega, by omega, by simpa using hd2, _, rfl⟩
          case measure => simp [intOf]
        · have hv := hhigh j (by omega) (by omega) hd'.out h
          have hq := fun w => compareU64 (Dig.at_ l j) (Dig.at_ m j) w
          rw [cmpI_gt h] at hq
          clear hlow hhigh hsame hk
          go_wp2_with fail
          go_quiet ((go_at_call 45; exact quiet_add_left (hq _)))
          go_wp2_with fail
          go_ret
          exact ⟨by rw [hv.out]; rfl, ((below_drewN (((Below.refl _ _).alloc (Nat.le_refl _) _).alloc (by simp) _) _))⟩
      · obtain rfl : z = -1 := by omega
        have hv := hsame (by simpa using hd.out)
        clear hlow hhigh hsame hk hd
        go_wp2_with fail
        go_ret
        exact ⟨by rw [hv.out]; rfl, ((below_drewN (((Below.refl _ _).alloc (Nat.le_refl _) _).alloc (by simp) _) _))⟩
  · have hv := hlen2 h
    have hcm := cmpI_gt h
    have hk := fun w => compareInt n n' w
    rw [hcm] at hk
    clear hcm hlen hlen2 hlow hhigh hsame
    go_enter Try.func17, Try.ntmps17
    go_wp2_with (first | (go_at_call 44; refine (hk _).mono ?_; rintro e w' ⟨rfl, rfl⟩))
    go_ret
    exact ⟨by rw [hv.out]; rfl, ((Below.refl _ _).alloc (Nat.le_refl _) _).alloc (by simp) _⟩

theorem natCmp {A A' : Option Addr} {n c n' c' M N b b' : Nat} {w : World} (hM : Num w b A n c M) (hN : Num w b' A' n' c' N) :
    Calls Try.prog 17 #[.agg #[.slice A n c], .agg #[.slice A' n' c']] w fun e w' => e = .returned (.int .i64 (cmpI M N)) ∧ Below w.heap.size w w' := by
  obtain ⟨l, h1, h2, h3, h4, h5, h6, h7, h8⟩ := hM
  obtain ⟨m, g1, g2, g3, g4, g5, g6, g7, g8⟩ := hN
  have hl := h1.len
  have hm := g1.len
  refine natCmp_rows A A' n c n' c' M N l m w h1 g1 (by omega) (fun h => cmpI_lt ?_) (fun h => cmpI_gt ?_) (fun k hk hk' hd hlt => cmpI_lt ?_) (fun k hk hk' hd hlt => cmpI_gt ?_) (fun hd => cmpI_eq ?_)
  · rw [← h4, ← g4]; exact Dig.val_lt_of_len LB_pos h3 g2 (by omega)
  · rw [← h4, ← g4]; exact Dig.val_lt_of_len LB_pos g3 h2 (by omega)
  · rw [← h4, ← g4]; exact Dig.val_lt_of_digit LB_pos h3 (by omega) (by omega) hd hlt
  · rw [← h4, ← g4]; exact Dig.val_lt_of_digit LB_pos g3 (by omega) (by omega) hd.symm hlt
  · rw [← h4, ← g4, show l = m by simpa using hd]
end Go.Proofs.Ythcnopopkgelhaa
