/- The contracts of layer 4's functions: the library's Cut at one byte; Of. -/
import Derived.Test.YthlpldmodflmjaaDoorPosJ
import Derived.Test.YthlpldmodflmjaaDoorShelf2
import Derived.Lib.IndexLaws
import Derived.Lib.LastIndexByte
namespace Go.Proofs.YthlpldmodflmjaaDoor
open Go.RowKit

/-- A text is cut at the first byte of a kind. -/
theorem firstByte (L : List UInt8) (c : UInt8) : (∃ k : Nat, L[k]? = some c ∧ (∀ j, j < k → L[j]? ≠ some c) ∧ Lib.indexByte L c = k) ∨ ((∀ d ∈ L, d ≠ c) ∧ Lib.indexByte L c = -1) := by
  have hge := Lib.indexByte_ge L c
  by_cases h : Lib.indexByte L c = -1
  · refine .inr ⟨fun d hd e => ?_, h⟩
    obtain ⟨k, hk⟩ := List.mem_iff_getElem?.1 hd
    exact Lib.indexByte_none h k (by rw [hk, e])
  · obtain ⟨k, hk⟩ := Int.eq_ofNat_of_zero_le (show 0 ≤ Lib.indexByte L c by omega)
    obtain ⟨h1, h2⟩ := Lib.indexByte_some hk
    exact .inl ⟨k, h1, h2, hk⟩

set_option maxHeartbeats 1000000 in
theorem sliteCut_no (s : ByteArray) (c : UInt8) (w : World) (h : Lib.indexByte s.data.toList c = -1) :
    Calls Tryd.prog 49 #[.string s, .string ⟨#[c]⟩] w fun e w' => e = .returned (.tuple #[.string s, .string ⟨#[]⟩, .bool false]) ∧ Below w.heap.size w w' := by
  have hq := fun w => Tryd.stringslite_Index_one s c w
  rw [h] at hq
  go_enter Tryd.func49, Tryd.ntmps49
  go_wp2_with fail
  refine (hq _).mono ?_
  rintro e w1 ⟨rfl, rfl⟩
  go_wp2_with fail
  refine bodyPost_ret (v := .tuple #[.string s, .string ⟨#[]⟩, .bool false]) (by simp [results, Tryd.results49, go_sem]) rfl ?_
  exact ⟨rfl, Below.refl _ _⟩

set_option maxHeartbeats 1000000 in
theorem sliteCut_yes (s : ByteArray) (c : UInt8) (k : Nat) (w : World) (hk : k < s.size) (hs : s.size ≤ 100000) (h : Lib.indexByte s.data.toList c = k) :
    Calls Tryd.prog 49 #[.string s, .string ⟨#[c]⟩] w fun e w' => e = .returned (.tuple #[.string (s.extract 0 k), .string (s.extract (k + 1) s.size), .bool true]) ∧ Below w.heap.size w w' := by
  have hq := fun w => Tryd.stringslite_Index_one s c w
  rw [h] at hq
  have hiu : IntKind.i64.wrap ((k : Int) + 1) = (k : Int) + 1 := IntWalk.i64_in _ (by omega)
  have hi1 : (k : Int) + 1 ≤ s.size := by omega
  have hi0 : (0 : Int) ≤ (k : Int) := by omega
  have hi2 : (k : Int) ≤ s.size := by omega
  clear h
  go_enter Tryd.func49, Tryd.ntmps49
  go_wp2_with fail
  refine (hq _).mono ?_
  rintro e w1 ⟨rfl, rfl⟩
  go_wp2_with fail
  go_region_with (fail)
  all_goals
    (go_wp2_with fail
     refine bodyPost_ret (v := .tuple #[.string (s.extract 0 k), .string (s.extract (k + 1) s.size), .bool true]) (by simp [results, Tryd.results49, go_sem]) rfl ?_
     exact ⟨rfl, by first | exact Below.refl _ _ | exact (Below.refl _ _).drew⟩)

/-- strings.Cut at one byte. -/
theorem cutOne (s : ByteArray) (c : UInt8) (w : World) (hs : s.size ≤ 100000) :
    Calls Tryd.prog 39 #[.string s, .string ⟨#[c]⟩] w fun e w' =>
      ((∃ k : Nat, k < s.size ∧ s.data.toList[k]? = some c ∧ (∀ j, j < k → s.data.toList[j]? ≠ some c) ∧ e = .returned (.tuple #[.string (s.extract 0 k), .string (s.extract (k + 1) s.size), .bool true])) ∨
      ((∀ d ∈ s.data.toList, d ≠ c) ∧ e = .returned (.tuple #[.string s, .string ⟨#[]⟩, .bool false]))) ∧ Below w.heap.size w w' := by
  rcases firstByte s.data.toList c with ⟨k, h1, h2, h3⟩ | ⟨h1, h2⟩
  · have hk : k < s.size := by
      rw [← size_len_]
      exact (List.getElem?_eq_some_iff.1 h1).1
    have hq := fun w => sliteCut_yes s c k w hk hs h3
    go_enter Tryd.func39, Tryd.ntmps39
    go_wp2_with fail
    refine (hq _).mono ?_
    rintro e w1 ⟨rfl, hb⟩
    go_wp2_with fail
    refine bodyPost_ret (v := .tuple #[.string (s.extract 0 k), .string (s.extract (k + 1) s.size), .bool true]) (by simp [results, Tryd.results39, go_sem]) rfl ?_
    exact ⟨.inl ⟨k, hk, h1, h2, rfl⟩, hb⟩
  · have hq := fun w => sliteCut_no s c w h2
    go_enter Tryd.func39, Tryd.ntmps39
    go_wp2_with fail
    refine (hq _).mono ?_
    rintro e w1 ⟨rfl, hb⟩
    go_wp2_with fail
    refine bodyPost_ret (v := .tuple #[.string s, .string ⟨#[]⟩, .bool false]) (by simp [results, Tryd.results39, go_sem]) rfl ?_
    exact ⟨.inr ⟨h1, rfl⟩, hb⟩

/-- Where the line begins, and how many bytes 10 are ahead. -/
theorem lastIdx_cuts (s : ByteArray) (k : Nat) (hk : k ≤ s.size) : ∀ j, j ≤ k → Lib.lastIdx (s.extract 0 k) 10 j + 1 = ((cuts s.data.toList j).2 : Nat)
  | 0, _ => rfl
  | j + 1, h => by
    have ih := lastIdx_cuts s k hk j (by omega)
    have hg : (s.extract 0 k).data[j]! = s.data.toList[j]'(by rw [size_len_]; omega) := by
      have hj : j < (s.extract 0 k).size := by
        have : (s.extract 0 k).size = k := by simp; omega
        omega
      rw [LastIndex.byteBang _ _ hj, ByteArray.getElem_extract]
      simp only [Nat.zero_add]
      rfl
    have hget : s.data.toList[j]? = some (s.data.toList[j]'(by rw [size_len_]; omega)) := List.getElem?_eq_getElem _
    unfold Lib.lastIdx
    rw [hg]
    by_cases e : s.data.toList[j]'(by rw [size_len_]; omega) = 10
    · rw [cuts_nl (by rw [hget, e]), e]
      rw [if_pos (by decide)]
      simp
    · rw [cuts_ch (by rw [hget]; intro h2; injection h2 with h2; exact e h2), if_neg]
      · exact ih
      · intro h2
        apply e
        apply UInt8.toNat_inj.1
        show _ = 10
        omega
theorem count_spot (L : List UInt8) : ∀ k, k ≤ L.length → (L.take k).count 10 + 1 = (spot L k).1
  | 0, _ => by simp [spot]
  | k + 1, h => by
    have ih := count_spot L k (by omega)
    have hget : L[k]? = some L[k] := List.getElem?_eq_getElem _
    rw [List.take_add_one, hget]
    by_cases e : L[k] = 10
    · rw [spot_nl (by rw [hget, e]), e, List.count_append]
      show _ + List.count 10 [10] + 1 = _
      rw [List.count_singleton_self]
      omega
    · rw [spot_ch (by rw [hget]; intro h2; injection h2 with h2; exact e h2), List.count_append]
      have h0 : List.count 10 [L[k]] = 0 := List.count_eq_zero_of_not_mem (fun h => e (List.mem_singleton.1 h).symm)
      show _ + List.count 10 [L[k]] + 1 = _
      omega

set_option maxHeartbeats 1000000 in
theorem posOf_no (s : ByteArray) (z : Int) (h : z < 0 ∨ (¬ z < 0 ∧ (s.size : Int) < z)) (w : World) :
    Calls Tryd.prog 24 #[.string s, .int .i64 z] w fun e w' => e = .returned (.tuple #[.agg #[.int .i64 0, .int .i64 0], .bool false]) ∧ Below w.heap.size w w' := by
  rcases h with h | ⟨h, h2⟩
  · go_enter Tryd.func24, Tryd.ntmps24
    go_wp2_with fail
    refine bodyPost_ret (v := .tuple #[.agg #[.int .i64 0, .int .i64 0], .bool false]) (by simp [results, Tryd.results24, go_sem]) rfl ?_
    exact ⟨rfl, by first | exact (Below.refl _ _).alloc (Nat.le_refl _) _ | exact (((Below.refl _ _).alloc (Nat.le_refl _) _).setCell (Nat.le_refl _) _).setCell (Nat.le_refl _) _⟩
  · go_enter Tryd.func24, Tryd.ntmps24
    go_wp2_with fail
    refine bodyPost_ret (v := .tuple #[.agg #[.int .i64 0, .int .i64 0], .bool false]) (by simp [results, Tryd.results24, go_sem]) rfl ?_
    exact ⟨rfl, by first | exact (Below.refl _ _).alloc (Nat.le_refl _) _ | exact (((Below.refl _ _).alloc (Nat.le_refl _) _).setCell (Nat.le_refl _) _).setCell (Nat.le_refl _) _⟩

set_option maxHeartbeats 1000000 in
theorem posOf_yes (s : ByteArray) (k : Nat) (h : k ≤ s.size) (hs : s.size ≤ 100000) (w : World) :
    Calls Tryd.prog 24 #[.string s, .int .i64 k] w fun e w' => e = .returned (.tuple #[.agg #[.int .i64 ((spot s.data.toList k).1 : Nat), .int .i64 ((spot s.data.toList k).2 : Nat)], .bool true]) ∧ Below w.heap.size w w' := by
  have h1 : ¬ ((k : Int) < 0) := by omega
  have h2 : ¬ ((s.size : Int) < (k : Int)) := by omega
  have h3 : (k : Int) ≤ s.size := by omega
  have h0 : (0 : Int) ≤ k := by omega
  have hsz : (s.extract 0 k).size = k := by simp; omega
  have hcl := cuts_len s.data.toList k
  have hsp := spot_pos s.data.toList k
  have q1 : ∀ w, Calls Tryd.prog 40 #[.string (s.extract 0 k), .string ⟨#[10]⟩] w fun e w' => e = .returned (.int .i64 ((k : Int) - ((spot s.data.toList k).2 : Nat))) ∧ w' = w := fun w => by
    have hq := Tryd.strings_LastIndex_one (s.extract 0 k) ⟨#[10]⟩ rfl (by omega) w
    have hv : Lib.lastIndexByte (s.extract 0 k) ((((⟨#[10]⟩ : ByteArray)[0]'(by decide)).toNat : Int)) = (k : Int) - ((spot s.data.toList k).2 : Nat) := by
      have := lastIdx_cuts s k h k (Nat.le_refl _)
      show Lib.lastIdx (s.extract 0 k) 10 (s.extract 0 k).size = _
      rw [hsz]
      omega
    rwa [hv] at hq
  have q2 : ∀ w, Calls Tryd.prog 41 #[.string (s.extract 0 k), .string ⟨#[10]⟩] w fun e w' => e = .returned (.int .i64 (((spot s.data.toList k).1 : Nat) - 1)) ∧ w' = w := fun w => by
    have hq := Tryd.strings_Count_one (s.extract 0 k) 10 w
    have hv : (Lib.countByte (s.extract 0 k).data.toList 10 : Int) = ((spot s.data.toList k).1 : Nat) - 1 := by
      have := count_spot s.data.toList k (by rw [size_len_]; exact h)
      have he : (s.extract 0 k).data.toList = s.data.toList.take k := by simp
      unfold Lib.countByte
      rw [he]
      omega
    rwa [hv] at hq
  generalize spot s.data.toList k = p at *
  clear hcl hsz
  have u1 : IntKind.i64.wrap ((k : Int) - (p.2 : Nat) + 1) = (k : Int) - (p.2 : Nat) + 1 := IntWalk.i64_in _ (by omega)
  have u2 : IntKind.i64.wrap (((p.1 : Nat) : Int) - 1 + 1) = (p.1 : Nat) := (IntWalk.i64_in _ (by omega)).trans (by omega)
  have u3 : IntKind.i64.wrap ((k : Int) - ((k : Int) - (p.2 : Nat) + 1)) = (p.2 : Nat) - 1 := (IntWalk.i64_in _ (by omega)).trans (by omega)
  have u4 : IntKind.i64.wrap (((p.2 : Nat) : Int) - 1 + 1) = (p.2 : Nat) := (IntWalk.i64_in _ (by omega)).trans (by omega)
  go_enter Tryd.func24, Tryd.ntmps24
  go_wp2_with fail
  refine (q1 _).mono ?_
  rintro e w1 ⟨rfl, rfl⟩
  go_wp2_with fail
  refine (q2 _).mono ?_
  rintro e w2 ⟨rfl, rfl⟩
  go_wp2_with fail
  refine bodyPost_ret (v := .tuple #[.agg #[.int .i64 (p.1 : Nat), .int .i64 (p.2 : Nat)], .bool true]) (by simp [results, Tryd.results24, go_sem]) rfl ?_
  exact ⟨rfl, (Below.refl _ _).alloc (Nat.le_refl _) _⟩

theorem posOf_ : PosOfC := by
  intro s z w hs hz
  have hl := size_len_ s
  by_cases h : 0 ≤ z ∧ z ≤ s.data.toList.length
  · obtain ⟨k, rfl⟩ := Int.eq_ofNat_of_zero_le h.1
    rw [ofV_yes (by omega)]
    exact posOf_yes s k (by omega) (by omega) w
  · rw [ofV_no h]
    exact posOf_no s z (by omega) w
end Go.Proofs.YthlpldmodflmjaaDoor
