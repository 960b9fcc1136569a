/- The contracts of layer 5's count, rule, and rule's closures. -/
import Derived.Test.YthlpldmodflmjaaDoorTokW
import Derived.Test.YthlpldmodflmjaaDoorTokV
import Derived.Test.YthlpldmodflmjaaDoorTokT
namespace Go.Proofs.YthlpldmodflmjaaDoor
open Go.RowKit

set_option maxHeartbeats 2000000 in
theorem tokCount (k : Nat) (hk : k ≤ 2) (s : ByteArray) (hI : k = 1 → isIntB s.data.toList = true) (hs : s.size ≤ 100000) (w : World) (hL : LaidR w) :
    Calls Tryd.prog 45 #[.int .i64 k, .string s] w fun e w' => e = .returned (.tuple #[.int .i64 (countV k s.data.toList).1, .int .i64 (countV k s.data.toList).2]) ∧ Below w.heap.size w w' := by
  have hl := size_len_ s
  rcases (show k = 0 ∨ k = 1 ∨ k = 2 by omega) with rfl | rfl | rfl
  · by_cases h : 32 < s.size
    · have hv : countV 0 s.data.toList = (0, 52) := by unfold countV; rw [if_neg (by omega), if_pos ⟨rfl, by omega⟩]
      rw [hv]
      have h1 : (32 : Int) < s.size := by omega
      clear hv hl h hI
      go_enter Tryd.func45, Tryd.ntmps45
      go_wp2_with fail
      go_ret2
      exact ⟨rfl, Below.refl _ _⟩
    · have hv : countV 0 s.data.toList = (0, 0) := by unfold countV; rw [if_neg (by omega), if_neg (by omega), if_neg (by omega)]
      rw [hv]
      have h1 : ¬ (32 : Int) < s.size := by omega
      clear hv hl h hI
      go_enter Tryd.func45, Tryd.ntmps45
      go_wp2_with fail
      go_ret2
      exact ⟨rfl, Below.refl _ _⟩
  · have hv : countV 1 s.data.toList = ((numV s.data.toList).1, if (numV s.data.toList).2 = true then 0 else 51) := rfl
    rw [hv]
    have hq := tokNumber s (hI rfl) hs w hL
    generalize (numV s.data.toList).1 = n at *
    generalize (if (numV s.data.toList).2 = true then (0 : Int) else 51) = e at *
    clear hv hl hI
    go_enter Tryd.func45, Tryd.ntmps45
    go_wp2_with fail
    refine hq.mono ?_
    rintro e w1 ⟨rfl, hb⟩
    go_wp2_with fail
    go_ret2
    exact ⟨rfl, hb⟩
  · by_cases h : s.data.toList = []
    · have hv : countV 2 s.data.toList = (0, 50) := by unfold countV; rw [if_neg (by omega), if_neg (by omega), if_pos ⟨rfl, h⟩]
      rw [hv]
      have h1 := litEq5 h
      clear hv hl h hI
      go_enter Tryd.func45, Tryd.ntmps45
      go_wp2_with fail
      go_ret2
      exact ⟨rfl, Below.refl _ _⟩
    · have hv : countV 2 s.data.toList = (0, 0) := by unfold countV; rw [if_neg (by omega), if_neg (by omega), if_neg (fun e => h e.2)]
      rw [hv]
      have h1 := litNe5 h
      clear hv hl h hI
      go_enter Tryd.func45, Tryd.ntmps45
      go_wp2_with fail
      go_ret2
      exact ⟨rfl, Below.refl _ _⟩

set_option maxHeartbeats 1000000 in
theorem belWord (s : ByteArray) (j g : Nat) (hj : j < s.size) (d : UInt8) (hd : s.data.toList[j]? = some d) (W : World) (hc : W.cell? ⟨g, 0, none⟩ = some (.string s)) :
    Calls Tryd.prog 57 #[.int .i64 j, .pointer (some ⟨g, 0, none⟩)] W fun e w' => e = .returned (.bool (ltr d || dgt d)) ∧ w' = W := by
  obtain ⟨d', hd', hidx⟩ := byte_is s j hj
  obtain rfl : d' = d := by
    have := hd'.symm.trans hd
    injection this
  have q1 := fun w => tokLetterB d' w
  have q2 := fun w => tokDigitB d' w
  clear hd hd'
  cases hl : ltr d' with
  | true =>
    rw [hl] at q1
    go_enter Tryd.func57, Tryd.ntmps57
    go_wp2_with fail
    refine (q1 _).mono ?_
    rintro e w1 ⟨rfl, rfl⟩
    go_wp2_with fail
    go_ret
    exact ⟨rfl, rfl⟩
  | false =>
    rw [hl] at q1
    generalize dgt d' = b at *
    go_enter Tryd.func57, Tryd.ntmps57
    go_wp2_with fail
    refine (q1 _).mono ?_
    rintro e w1 ⟨rfl, rfl⟩
    go_wp2_with fail
    refine (q2 _).mono ?_
    rintro e w2 ⟨rfl, rfl⟩
    go_wp2_with fail
    go_ret
    exact ⟨rfl, rfl⟩
set_option maxHeartbeats 1000000 in
theorem belInt (s : ByteArray) (j g : Nat) (hj : j < s.size) (d : UInt8) (hd : s.data.toList[j]? = some d) (W : World) (hc : W.cell? ⟨g, 0, none⟩ = some (.string s)) :
    Calls Tryd.prog 59 #[.int .i64 j, .pointer (some ⟨g, 0, none⟩)] W fun e w' => e = .returned (.bool (dgt d)) ∧ w' = W := by
  obtain ⟨d', hd', hidx⟩ := byte_is s j hj
  obtain rfl : d' = d := by
    have := hd'.symm.trans hd
    injection this
  have q2 := fun w => tokDigitB d' w
  clear hd hd'
  generalize dgt d' = b at *
  go_enter Tryd.func59, Tryd.ntmps59
  go_wp2_with fail
  refine (q2 _).mono ?_
  rintro e w2 ⟨rfl, rfl⟩
  go_wp2_with fail
  go_ret
  exact ⟨rfl, rfl⟩
set_option maxHeartbeats 1000000 in
theorem belSign (s : ByteArray) (q j g g' : Nat) (hq : q ≤ j) (hj : j < s.size) (hs : s.size ≤ 100000) (W : World) (hc : W.cell? ⟨g, 0, none⟩ = some (.string s)) (hc' : W.cell? ⟨g', 0, none⟩ = some (.int .i64 q)) :
    Calls Tryd.prog 60 #[.int .i64 j, .pointer (some ⟨g, 0, none⟩), .pointer (some ⟨g', 0, none⟩)] W fun e w' => e = .returned (.bool (isSignB ((s.data.toList.drop q).take (j - q + 1)))) ∧ w' = W := by
  have hx : (s.extract q (j + 1)).data.toList = (s.data.toList.drop q).take (j - q + 1) := by
    rw [extract_span5]
    unfold span
    rw [List.drop_take, show j + 1 - q = j - q + 1 by omega]
  have h := fun w => tokIsSign (s.extract q (j + 1)) w
  rw [hx] at h
  clear hx
  generalize isSignB ((s.data.toList.drop q).take (j - q + 1)) = b at *
  have u1 : IntKind.i64.wrap ((j : Int) + 1) = (j : Int) + 1 := IntWalk.i64_in _ (by omega)
  have u2 : (j : Int) + 1 ≤ s.size := by omega
  have u3 : (q : Int) ≤ (j : Int) + 1 := by omega
  have u4 : (0 : Int) ≤ q := by omega
  have u5 : (0 : Int) ≤ (j : Int) + 1 := by omega
  have u6 : ((j : Int) + 1).toNat = j + 1 := by omega
  generalize hxs : s.extract q (j + 1) = xs at *
  go_enter Tryd.func60, Tryd.ntmps60
  go_wp2_with fail
  refine (h _).mono ?_
  rintro e w2 ⟨rfl, rfl⟩
  go_wp2_with fail
  go_ret
  exact ⟨rfl, rfl⟩

/-- What rule answers: the kind, and the closure over two boxes. -/
def ruleC (k g : Nat) : Value := if k = 0 then .func (.func 57) #[] #[.pointer (some ⟨g, 0, none⟩)] else if k = 1 then .func (.func 59) #[] #[.pointer (some ⟨g, 0, none⟩)] else .func (.func 60) #[] #[.pointer (some ⟨g, 0, none⟩), .pointer (some ⟨g + 1, 0, none⟩)]
set_option maxHeartbeats 1000000 in
theorem tokRule (s : ByteArray) (q : Nat) (hq : q < s.size) (c : UInt8) (hc : s.data.toList[q]? = some c) (w : World) :
    Calls Tryd.prog 44 #[.string s, .int .i64 q] w fun e w' => e = .returned (.tuple #[.int .i64 (ruleK c : Nat), ruleC (ruleK c) w.heap.size]) ∧ w'.cell? ⟨w.heap.size, 0, none⟩ = some (.string s) ∧ w'.cell? ⟨w.heap.size + 1, 0, none⟩ = some (.int .i64 q) ∧ Below w.heap.size w w' := by
  obtain ⟨d', hd', hidx⟩ := byte_is s q hq
  obtain rfl : d' = c := by
    have := hd'.symm.trans hc
    injection this
  have q1 := fun w => tokLetterB d' w
  have q2 := fun w => tokDigitB d' w
  have hb1 := Box.new w [.string s] 9
  have hb2 := hb1.step (bnew5 _ (.cells #[.int .i64 q] 3))
  have hb3 := Box.new (w.alloc (.cells #[.string s] 9)) [.int .i64 q] 3
  rw [show (w.alloc (.cells #[.string s] 9)).heap.size = w.heap.size + 1 by simp] at hb3
  have hbw := bth5 (bnew5 w (.cells #[.string s] 9)) (bnew5 _ (.cells #[.int .i64 q] 3))
  have c0 : ((w.alloc (.cells #[.string s] 9)).alloc (.cells #[.int .i64 q] 3)).cell? ⟨w.heap.size, 0, none⟩ = some (.string s) := (hb2 0 _ rfl).1
  have c1 : ((w.alloc (.cells #[.string s] 9)).alloc (.cells #[.int .i64 q] 3)).cell? ⟨w.heap.size + 1, 0, none⟩ = some (.int .i64 q) := (hb3 0 _ rfl).1
  have hfin := Lib.hid (And.intro c0 (And.intro c1 hbw))
  clear hc hd' hb1 hb2 hb3 hbw c0 c1
  by_cases h0 : ltr d' = true
  · have hK : ruleK d' = 0 := by unfold ruleK; rw [if_pos h0]
    rw [h0] at q1
    rw [hK]
    clear hK h0 q2
    go_enter Tryd.func44, Tryd.ntmps44
    go_wp2_with fail
    refine (q1 _).mono ?_
    rintro e w1 ⟨rfl, rfl⟩
    go_wp2_with fail
    go_ret2
    exact ⟨rfl, hfin.out⟩
  · have h0 := Bool.eq_false_iff.2 h0
    rw [h0] at q1
    by_cases h1 : dgt d' = true
    · have hK : ruleK d' = 1 := by unfold ruleK; rw [if_neg (by rw [h0]; simp), if_pos h1]
      rw [h1] at q2
      rw [hK]
      clear hK h0 h1
      go_enter Tryd.func44, Tryd.ntmps44
      go_wp2_with fail
      refine (q1 _).mono ?_
      rintro e w1 ⟨rfl, rfl⟩
      go_wp2_with fail
      refine (q2 _).mono ?_
      rintro e w1 ⟨rfl, rfl⟩
      go_wp2_with fail
      go_ret2
      exact ⟨rfl, hfin.out⟩
    · have h1 := Bool.eq_false_iff.2 h1
      have hK : ruleK d' = 2 := by unfold ruleK; rw [if_neg (by rw [h0]; simp), if_neg (by rw [h1]; simp)]
      rw [h1] at q2
      rw [hK]
      clear hK h0 h1
      go_enter Tryd.func44, Tryd.ntmps44
      go_wp2_with fail
      refine (q1 _).mono ?_
      rintro e w1 ⟨rfl, rfl⟩
      go_wp2_with fail
      refine (q2 _).mono ?_
      rintro e w1 ⟨rfl, rfl⟩
      go_wp2_with fail
      go_ret2
      exact ⟨rfl, hfin.out⟩
end Go.Proofs.YthlpldmodflmjaaDoor
