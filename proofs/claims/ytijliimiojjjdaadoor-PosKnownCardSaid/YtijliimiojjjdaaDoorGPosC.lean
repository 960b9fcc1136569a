/- The contracts of layer 4's functions: the library's Cut at one byte; Of. The contract of layer 4's Place. The contract of layer 4's Lines. -/
import Derived.Test.YtijliimiojjjdaaDoorGPosI
import Derived.Test.YtijliimiojjjdaaDoorShelf2
import Derived.Lib.IndexLaws
import Derived.Lib.LastIndexByte
import Derived.Laws.MakeOwn
namespace Go.Proofs.YtijliimiojjjdaaDoor
section
open Go.RowKit

/-- A text is cut at the first byte of a kind. -/
theorem firstByte (L : List UInt8) (c : UInt8) : (∃ k : Nat, L[k]? = some c ∧ (∀ j, j < k → L[j]? ≠ some c) ∧ Lib.indexByte L c = k) ∨ ((∀ d ∈ L, d ≠ c) ∧ Lib.indexByte L c = -1) := by
  have hge := Lib.indexByte_ge L c
  by_cases h : Lib.indexByte L c = -1
  · refine .inr ⟨fun d hd e => ?_, h⟩
    obtain ⟨k, hk⟩ := List.mem_iff_getElem?.1 hd
    exact Lib.indexByte_none h k (by rw [hk, e])
  · obtain ⟨k, hk⟩ := Int.eq_ofNat_of_zero_le (show 0 ≤ Lib.indexByte L c by omega)
    obtain ⟨h1, h2⟩ := Lib.indexByte_some hk
    exact .inl ⟨k, h1, h2, hk⟩

set_option maxHeartbeats 1000000 in
theorem sliteCut_no (s : ByteArray) (c : UInt8) (w : World) (h : Lib.indexByte s.data.toList c = -1) :
    Calls Tryd.prog 44 #[.string s, .string ⟨#[c]⟩] w fun e w' => e = .returned (.tuple #[.string s, .string ⟨#[]⟩, .bool false]) ∧ Below w.heap.size w w' := by
  have hq := fun w => Tryd.stringslite_Index_one s c w
  rw [h] at hq
  go_enter Tryd.func44, Tryd.ntmps44
  go_wp2_with fail
  refine (hq _).mono ?_
  rintro e w1 ⟨rfl, rfl⟩
  go_wp2_with fail
  refine bodyPost_ret (v := .tuple #[.string s, .string ⟨#[]⟩, .bool false]) (by simp [results, Tryd.results44, go_sem]) rfl ?_
  exact ⟨rfl, Below.refl _ _⟩

set_option maxHeartbeats 1000000 in
theorem sliteCut_yes (s : ByteArray) (c : UInt8) (k : Nat) (w : World) (hk : k < s.size) (hs : s.size ≤ 100000) (h : Lib.indexByte s.data.toList c = k) :
    Calls Tryd.prog 44 #[.string s, .string ⟨#[c]⟩] w fun e w' => e = .returned (.tuple #[.string (s.extract 0 k), .string (s.extract (k + 1) s.size), .bool true]) ∧ Below w.heap.size w w' := by
  have hq := fun w => Tryd.stringslite_Index_one s c w
  rw [h] at hq
  have hiu : IntKind.i64.wrap ((k : Int) + 1) = (k : Int) + 1 := IntWalk.i64_in _ (by omega)
  have hi1 : (k : Int) + 1 ≤ s.size := by omega
  have hi0 : (0 : Int) ≤ (k : Int) := by omega
  have hi2 : (k : Int) ≤ s.size := by omega
  clear h
  go_enter Tryd.func44, Tryd.ntmps44
  go_wp2_with fail
  refine (hq _).mono ?_
  rintro e w1 ⟨rfl, rfl⟩
  go_wp2_with fail
  go_region_with (fail)
  all_goals
    (go_wp2_with fail
     refine bodyPost_ret (v := .tuple #[.string (s.extract 0 k), .string (s.extract (k + 1) s.size), .bool true]) (by simp [results, Tryd.results44, go_sem]) rfl ?_
     exact ⟨rfl, by first | exact Below.refl _ _ | exact (Below.refl _ _).drew⟩)

/-- strings.Cut at one byte. -/
theorem cutOne (s : ByteArray) (c : UInt8) (w : World) (hs : s.size ≤ 100000) :
    Calls Tryd.prog 31 #[.string s, .string ⟨#[c]⟩] w fun e w' =>
      ((∃ k : Nat, k < s.size ∧ s.data.toList[k]? = some c ∧ (∀ j, j < k → s.data.toList[j]? ≠ some c) ∧ e = .returned (.tuple #[.string (s.extract 0 k), .string (s.extract (k + 1) s.size), .bool true])) ∨
      ((∀ d ∈ s.data.toList, d ≠ c) ∧ e = .returned (.tuple #[.string s, .string ⟨#[]⟩, .bool false]))) ∧ Below w.heap.size w w' := by
  rcases firstByte s.data.toList c with ⟨k, h1, h2, h3⟩ | ⟨h1, h2⟩
  · have hk : k < s.size := by
      rw [← size_len_]
      exact (List.getElem?_eq_some_iff.1 h1).1
    have hq := fun w => sliteCut_yes s c k w hk hs h3
    go_enter Tryd.func31, Tryd.ntmps31
    go_wp2_with fail
    refine (hq _).mono ?_
    rintro e w1 ⟨rfl, hb⟩
    go_wp2_with fail
    refine bodyPost_ret (v := .tuple #[.string (s.extract 0 k), .string (s.extract (k + 1) s.size), .bool true]) (by simp [results, Tryd.results31, go_sem]) rfl ?_
    exact ⟨.inl ⟨k, hk, h1, h2, rfl⟩, hb⟩
  · have hq := fun w => sliteCut_no s c w h2
    go_enter Tryd.func31, Tryd.ntmps31
    go_wp2_with fail
    refine (hq _).mono ?_
    rintro e w1 ⟨rfl, hb⟩
    go_wp2_with fail
    refine bodyPost_ret (v := .tuple #[.string s, .string ⟨#[]⟩, .bool false]) (by simp [results, Tryd.results31, go_sem]) rfl ?_
    exact ⟨.inr ⟨h1, rfl⟩, hb⟩

/-- Where the line begins, and how many bytes 10 are ahead. -/
theorem lastIdx_cuts (s : ByteArray) (k : Nat) (hk : k ≤ s.size) : ∀ j, j ≤ k → Lib.lastIdx (s.extract 0 k) 10 j + 1 = ((cuts s.data.toList j).2 : Nat)
  | 0, _ => rfl
  | j + 1, h => by
    have ih := lastIdx_cuts s k hk j (by omega)
    have hg : (s.extract 0 k).data[j]! = s.data.toList[j]'(by rw [size_len_]; omega) := by
      have hj : j < (s.extract 0 k).size := by
        have : (s.extract 0 k).size = k := by simp; omega
        omega
      rw [LastIndex.byteBang _ _ hj, ByteArray.getElem_extract]
      simp only [Nat.zero_add]
      rfl
    have hget : s.data.toList[j]? = some (s.data.toList[j]'(by rw [size_len_]; omega)) := List.getElem?_eq_getElem _
    unfold Lib.lastIdx
    rw [hg]
    by_cases e : s.data.toList[j]'(by rw [size_len_]; omega) = 10
    · rw [cuts_nl (by rw [hget, e]), e]
      rw [if_pos (by decide)]
      simp
    · rw [cuts_ch (by rw [hget]; intro h2; injection h2 with h2; exact e h2), if_neg]
      · exact ih
      · intro h2
        apply e
        apply UInt8.toNat_inj.1
        show _ = 10
        omega
theorem count_spot (L : List UInt8) : ∀ k, k ≤ L.length → (L.take k).count 10 + 1 = (spot L k).1
  | 0, _ => by simp [spot]
  | k + 1, h => by
    have ih := count_spot L k (by omega)
    have hget : L[k]? = some L[k] := List.getElem?_eq_getElem _
    rw [List.take_add_one, hget]
    by_cases e : L[k] = 10
    · rw [spot_nl (by rw [hget, e]), e, List.count_append]
      show _ + List.count 10 [10] + 1 = _
      rw [List.count_singleton_self]
      omega
    · rw [spot_ch (by rw [hget]; intro h2; injection h2 with h2; exact e h2), List.count_append]
      have h0 : List.count 10 [L[k]] = 0 := List.count_eq_zero_of_not_mem (fun h => e (List.mem_singleton.1 h).symm)
      show _ + List.count 10 [L[k]] + 1 = _
      omega

set_option maxHeartbeats 1000000 in
theorem posOf_no (s : ByteArray) (z : Int) (h : z < 0 ∨ (¬ z < 0 ∧ (s.size : Int) < z)) (w : World) :
    Calls Tryd.prog 8 #[.string s, .int .i64 z] w fun e w' => e = .returned (.tuple #[.agg #[.int .i64 0, .int .i64 0], .bool false]) ∧ Below w.heap.size w w' := by
  rcases h with h | ⟨h, h2⟩
  · go_enter Tryd.func8, Tryd.ntmps8
    go_wp2_with fail
    refine bodyPost_ret (v := .tuple #[.agg #[.int .i64 0, .int .i64 0], .bool false]) (by simp [results, Tryd.results8, go_sem]) rfl ?_
    exact ⟨rfl, by first | exact (Below.refl _ _).alloc (Nat.le_refl _) _ | exact (((Below.refl _ _).alloc (Nat.le_refl _) _).setCell (Nat.le_refl _) _).setCell (Nat.le_refl _) _⟩
  · go_enter Tryd.func8, Tryd.ntmps8
    go_wp2_with fail
    refine bodyPost_ret (v := .tuple #[.agg #[.int .i64 0, .int .i64 0], .bool false]) (by simp [results, Tryd.results8, go_sem]) rfl ?_
    exact ⟨rfl, by first | exact (Below.refl _ _).alloc (Nat.le_refl _) _ | exact (((Below.refl _ _).alloc (Nat.le_refl _) _).setCell (Nat.le_refl _) _).setCell (Nat.le_refl _) _⟩

set_option maxHeartbeats 1000000 in
theorem posOf_yes (s : ByteArray) (k : Nat) (h : k ≤ s.size) (hs : s.size ≤ 100000) (w : World) :
    Calls Tryd.prog 8 #[.string s, .int .i64 k] w fun e w' => e = .returned (.tuple #[.agg #[.int .i64 ((spot s.data.toList k).1 : Nat), .int .i64 ((spot s.data.toList k).2 : Nat)], .bool true]) ∧ Below w.heap.size w w' := by
  have h1 : ¬ ((k : Int) < 0) := by omega
  have h2 : ¬ ((s.size : Int) < (k : Int)) := by omega
  have h3 : (k : Int) ≤ s.size := by omega
  have h0 : (0 : Int) ≤ k := by omega
  have hsz : (s.extract 0 k).size = k := by simp; omega
  have hcl := cuts_len s.data.toList k
  have hsp := spot_pos s.data.toList k
  have q1 : ∀ w, Calls Tryd.prog 29 #[.string (s.extract 0 k), .string ⟨#[10]⟩] w fun e w' => e = .returned (.int .i64 ((k : Int) - ((spot s.data.toList k).2 : Nat))) ∧ w' = w := fun w => by
    have hq := Tryd.strings_LastIndex_one (s.extract 0 k) ⟨#[10]⟩ rfl (by omega) w
    have hv : Lib.lastIndexByte (s.extract 0 k) ((((⟨#[10]⟩ : ByteArray)[0]'(by decide)).toNat : Int)) = (k : Int) - ((spot s.data.toList k).2 : Nat) := by
      have := lastIdx_cuts s k h k (Nat.le_refl _)
      show Lib.lastIdx (s.extract 0 k) 10 (s.extract 0 k).size = _
      rw [hsz]
      omega
    rwa [hv] at hq
  have q2 : ∀ w, Calls Tryd.prog 30 #[.string (s.extract 0 k), .string ⟨#[10]⟩] w fun e w' => e = .returned (.int .i64 (((spot s.data.toList k).1 : Nat) - 1)) ∧ w' = w := fun w => by
    have hq := Tryd.strings_Count_one (s.extract 0 k) 10 w
    have hv : (Lib.countByte (s.extract 0 k).data.toList 10 : Int) = ((spot s.data.toList k).1 : Nat) - 1 := by
      have := count_spot s.data.toList k (by rw [size_len_]; exact h)
      have he : (s.extract 0 k).data.toList = s.data.toList.take k := by simp
      unfold Lib.countByte
      rw [he]
      omega
    rwa [hv] at hq
  generalize spot s.data.toList k = p at *
  clear hcl hsz
  have u1 : IntKind.i64.wrap ((k : Int) - (p.2 : Nat) + 1) = (k : Int) - (p.2 : Nat) + 1 := IntWalk.i64_in _ (by omega)
  have u2 : IntKind.i64.wrap (((p.1 : Nat) : Int) - 1 + 1) = (p.1 : Nat) := (IntWalk.i64_in _ (by omega)).trans (by omega)
  have u3 : IntKind.i64.wrap ((k : Int) - ((k : Int) - (p.2 : Nat) + 1)) = (p.2 : Nat) - 1 := (IntWalk.i64_in _ (by omega)).trans (by omega)
  have u4 : IntKind.i64.wrap (((p.2 : Nat) : Int) - 1 + 1) = (p.2 : Nat) := (IntWalk.i64_in _ (by omega)).trans (by omega)
  go_enter Tryd.func8, Tryd.ntmps8
  go_wp2_with fail
  refine (q1 _).mono ?_
  rintro e w1 ⟨rfl, rfl⟩
  go_wp2_with fail
  refine (q2 _).mono ?_
  rintro e w2 ⟨rfl, rfl⟩
  go_wp2_with fail
  refine bodyPost_ret (v := .tuple #[.agg #[.int .i64 (p.1 : Nat), .int .i64 (p.2 : Nat)], .bool true]) (by simp [results, Tryd.results8, go_sem]) rfl ?_
  exact ⟨rfl, (Below.refl _ _).alloc (Nat.le_refl _) _⟩

theorem posOf_ : PosOfC := by
  intro s z w hs hz
  have hl := size_len_ s
  by_cases h : 0 ≤ z ∧ z ≤ s.data.toList.length
  · obtain ⟨k, rfl⟩ := Int.eq_ofNat_of_zero_le h.1
    rw [ofV_yes (by omega)]
    exact posOf_yes s k (by omega) (by omega) w
  · rw [ofV_no h]
    exact posOf_no s z (by omega) w
end

section
open Go.RowKit

/-- The bytes of a line, from its beginning on: one column a byte. -/
theorem spot_run {L : List UInt8} {b i : Nat} (hb : spot L b = (i, 1)) : ∀ m, (∀ j, j < m → L[b + j]? ≠ some 10) → spot L (b + m) = (i, m + 1)
  | 0, _ => hb
  | m + 1, h => by
    have ih := spot_run hb m (fun j hj => h j (by omega))
    rw [show b + (m + 1) = (b + m) + 1 by omega, spot_ch (h m (by omega)), ih]
theorem spot_below {L : List UInt8} {b i k : Nat} (hb : spot L b = (i, 1)) (hk : k < b) : (spot L k).1 < i := by
  have h1 := spot_lt L hk
  have h2 := spot_pos L k
  unfold ahead at h1
  rw [hb] at h1
  omega
/-- No byte 10 from a line's beginning on: nothing stands in a later line. -/
theorem spot_last {L : List UInt8} {b i k : Nat} (hb : spot L b = (i, 1)) (h : ∀ j, b ≤ j → L[j]? ≠ some 10) : (spot L k).1 ≤ i := by
  rcases Nat.lt_or_ge k b with h1 | h1
  · exact Nat.le_of_lt (spot_below hb h1)
  · obtain ⟨m, rfl⟩ := Nat.exists_eq_add_of_le h1
    rw [spot_run hb m (fun j _ => h _ (by omega))]
    exact Nat.le_refl _
/-- Where a line's places are. -/
theorem stands_line {L : List UInt8} {b m : Nat} {l c : Int} {i : Nat} (hl : l = (i : Nat)) (hb : spot L b = (i, 1)) (hm : ∀ j, j < m → L[b + j]? ≠ some 10) (h1 : 1 ≤ c) (h2 : c ≤ m + 1) : standsAt L l c (b + (c - 1).toNat) := by
  have := spot_run hb (c - 1).toNat (fun j hj => hm j (by omega))
  unfold standsAt
  rw [this]
  simp only
  omega
theorem stands_none {L : List UInt8} {b m k : Nat} {l c : Int} {i : Nat} (hl : l = (i : Nat)) (hb : spot L b = (i, 1)) (hm : ∀ j, j < m → L[b + j]? ≠ some 10) (hend : L[b + m]? = some 10 ∨ L.length = b + m) (hk : k ≤ L.length) (h2 : (m : Int) + 1 < c) : ¬ standsAt L l c k := by
  unfold standsAt
  rintro ⟨e1, e2⟩
  rcases Nat.lt_or_ge k b with h3 | h3
  · have := spot_below hb h3
    omega
  · obtain ⟨j, rfl⟩ := Nat.exists_eq_add_of_le h3
    rcases Nat.lt_or_ge m j with h4 | h4
    · rcases hend with h | h
      · have e := spot_run hb m hm
        have e3 := spot_nl h
        rw [e] at e3
        simp only at e3
        rcases Nat.lt_or_ge (b + m + 1) (b + j) with h5 | h5
        · have h6 := spot_lt L h5
          unfold ahead at h6
          rw [e3] at h6
          simp only at h6
          omega
        · rw [show b + j = b + m + 1 by omega, e3] at e1
          simp only at e1
          omega
      · omega
    · have e := spot_run hb j (fun x hx => hm x (by omega))
      rw [e] at e2
      simp only at e2
      omega

/-- The rest of a text, cut at its first byte 10. -/
theorem ext_len (s : ByteArray) (b : Nat) : (s.extract b s.size).size = s.size - b := by simp
theorem ext_get (s : ByteArray) (b j : Nat) : (s.extract b s.size).data.toList[j]? = s.data.toList[b + j]? := by
  have h : (s.extract b s.size).data.toList = s.data.toList.drop b := by
    rw [extract_span]
    simp only [span]
    rw [List.take_of_length_le (by rw [size_len_]; exact Nat.le_refl _)]
  rw [h, List.getElem?_drop]
theorem ext_ext (s : ByteArray) (b i j : Nat) (hj : b + j ≤ s.size) : (s.extract b s.size).extract i j = s.extract (b + i) (b + j) := by
  rw [ByteArray.extract_extract]
  congr 1
  omega
theorem cutRest (s : ByteArray) (b : Nat) (w : World) (hb : b ≤ s.size) (hs : s.size ≤ 1000) :
    Calls Tryd.prog 31 #[.string (s.extract b s.size), .string ⟨#[10]⟩] w fun e w' =>
      ((∃ k : Nat, b + k < s.size ∧ s.data.toList[b + k]? = some 10 ∧ (∀ j, j < k → s.data.toList[b + j]? ≠ some 10) ∧ e = .returned (.tuple #[.string (s.extract b (b + k)), .string (s.extract (b + k + 1) s.size), .bool true])) ∨
      ((∀ j, b ≤ j → s.data.toList[j]? ≠ some 10) ∧ e = .returned (.tuple #[.string (s.extract b s.size), .string ⟨#[]⟩, .bool false]))) ∧ Below w.heap.size w w' := by
  have hsz := ext_len s b
  refine (cutOne (s.extract b s.size) 10 w (by omega)).mono ?_
  rintro e w' ⟨⟨k, h1, h2, h3, rfl⟩ | ⟨h1, rfl⟩, h⟩
  · refine ⟨.inl ⟨k, by omega, by rw [← ext_get s b k]; exact h2, fun j hj => by rw [← ext_get s b j]; exact h3 j hj, ?_⟩, h⟩
    rw [hsz, ext_ext s b 0 k (by omega), ext_ext s b (k + 1) (s.size - b) (by omega), show b + (s.size - b) = s.size by omega]
    rfl
  · refine ⟨.inr ⟨fun j hj e => ?_, rfl⟩, h⟩
    obtain ⟨i, rfl⟩ := Nat.exists_eq_add_of_le hj
    rw [← ext_get s b i] at e
    exact h1 10 (List.mem_iff_getElem?.2 ⟨i, e⟩) rfl

set_option maxHeartbeats 1000000 in
theorem posPlace_low (s : ByteArray) (l c : Int) (h : l < 1 ∨ (¬ l < 1 ∧ c < 1)) (w : World) :
    Calls Tryd.prog 10 #[.string s, .agg #[.int .i64 l, .int .i64 c]] w fun e w' => e = .returned (.tuple #[.int .i64 0, .bool false]) ∧ Below w.heap.size w w' := by
  have hp := PB.new w l c 23
  have c0 := hp.c0
  have c1 := hp.c1
  have hb := below_new__ w (.cells #[.int .i64 l, .int .i64 c] 23)
  rcases h with h | ⟨h, h2⟩
  · go_enter Tryd.func10, Tryd.ntmps10
    go_wp2_with fail
    go_ret2
    exact ⟨rfl, hb⟩
  · go_enter Tryd.func10, Tryd.ntmps10
    go_wp2_with fail
    go_ret2
    exact ⟨rfl, hb⟩

/-- What the loop holds: the rest begins where line i does. -/
structure RS (s : ByteArray) (t : ByteArray) (i b : Nat) : Prop where
  eq : t = s.extract b s.size
  le : b ≤ s.size
  at_ : spot s.data.toList b = (i, 1)

set_option maxHeartbeats 4000000 in
theorem posPlace_any (s : ByteArray) (l c : Int) (hs : s.size ≤ 1000) (hl : in64 l) (hc : in64 c) (h1 : ¬ l < 1) (h2 : ¬ c < 1) (w : World) :
    Calls Tryd.prog 10 #[.string s, .agg #[.int .i64 l, .int .i64 c]] w fun e w' => PlaceEnd s l c e ∧ Below w.heap.size w w' := by
  have hp := PB.new w l c 23
  have hb0 := below_new__ w (.cells #[.int .i64 l, .int .i64 c] 23)
  have hst0 : Hid (PB (w.alloc (.cells #[.int .i64 l, .int .i64 c] 23)) w.heap.size l c ∧ Below w.heap.size w (w.alloc (.cells #[.int .i64 l, .int .i64 c] 23))) := ⟨hp, hb0⟩
  have HL := Lib.hid hl
  have HC := Lib.hid hc
  have c0 := hp.c0
  have c1 := hp.c1
  clear hl hc hp hb0
  go_enter Tryd.func10, Tryd.ntmps10
  go_wp2_with fail
  clear c0 c1
  go_loopw [6, 7] (fun r v W => ∃ (t : ByteArray) (i b : Nat), r = .string t ∧ v = .int .i64 i ∧ (i : Int) ≤ l ∧ Hid (RS s t i b) ∧ Hid (PB W w.heap.size l c ∧ Below w.heap.size w W)) (fun _ v _ => l.toNat - (intOf v).toNat)
  case atStart => exact ⟨s, 1, 0, rfl, rfl, by omega, ⟨by simp, by omega, rfl⟩, hst0⟩
  case round =>
    obtain ⟨t, i, b, rfl, rfl, hil, hrs, hst⟩ := hrel
    clear hst0
    have c0 := hst.out.1.c0
    have c1 := hst.out.1.c1
    have hq := cutRest s b wr hrs.out.le hs
    rw [← hrs.out.eq] at hq
    by_cases hlt : (i : Int) < l
    · go_wp2_with fail
      refine hq.mono ?_
      rintro e w1 ⟨⟨k, k1, k2, k3, rfl⟩ | ⟨k1, rfl⟩, hb1⟩
      · have hst1 : Hid (PB w1 w.heap.size l c ∧ Below w.heap.size w w1) := ⟨hst.out.1.step hb1, bthen4 hst.out.2 hb1⟩
        have hrs1 : Hid (RS s (s.extract (b + k + 1) s.size) (i + 1) (b + k + 1)) := ⟨rfl, by omega, by
          rw [spot_nl k2, spot_run hrs.out.at_ k k3]⟩
        have hl9 := HL.out.2
        have hiu : IntKind.i64.wrap ((i : Int) + 1) = (i : Int) + 1 := IntWalk.i64_in _ (by omega)
        generalize s.extract (b + k + 1) s.size = t2 at *
        clear hq c0 c1 k2 k3 hl9
        go_wp2_with fail
        exact ⟨⟨t2, i + 1, b + k + 1, rfl, by first | rfl | simp, by omega, hrs1, hst1⟩, by simp [intOf]; omega⟩
      · have hno : Hid (∀ k, k ≤ s.size → ¬ standsAt s.data.toList l c k) := fun k _ h => by
          have h5 := spot_last (k := k) hrs.out.at_ k1
          unfold standsAt at h
          omega
        have hb2 := bthen4 hst.out.2 hb1
        clear hq c0 c1 k1
        go_wp2_with fail
        go_ret2
        exact ⟨.inr ⟨hno.out, rfl⟩, hb2⟩
    · have hil2 : (i : Int) = l := by omega
      have hbs := hrs.out.le
      have hl9 := HL.out.2
      have hc9 := HC.out.2
      have hts : t.size = s.size - b := by rw [hrs.out.eq]; exact ext_len s b
      have u1 : IntKind.i64.wrap ((s.size : Int) - t.size) = b := (IntWalk.i64_in _ (by omega)).trans (by omega)
      go_wp2_with fail
      refine hq.mono ?_
      rintro e w1 ⟨⟨k, k1, k2, k3, rfl⟩ | ⟨k1, rfl⟩, hb1⟩
      · have hln : (s.extract b (b + k)).size = k := by simp; omega
        have hb2 := bthen4 hst.out.2 hb1
        have c1' := (hst.out.1.step hb1).c1
        have v0 : IntKind.i64.wrap (((s.extract b (b + k)).size : Int) + 1) = (k : Int) + 1 := (IntWalk.i64_in _ (by omega)).trans (by omega)
        generalize s.extract b (b + k) = ln at *
        generalize s.extract (b + k + 1) s.size = rs at *
        by_cases hcc : (k : Int) + 1 < c
        · have hno : Hid (∀ j, j ≤ s.size → ¬ standsAt s.data.toList l c j) := fun j hj => stands_none hil2.symm hrs.out.at_ k3 (.inl k2) (by rw [size_len_]; exact hj) hcc
          clear hq c0 c1 k2 k3 hl9 hc9 hts u1 hln
          go_wp2_with fail
          go_ret2
          exact ⟨.inr ⟨hno.out, rfl⟩, hb2⟩
        · have hys : Hid (standsAt s.data.toList l c (b + (c - 1).toNat)) := stands_line hil2.symm hrs.out.at_ k3 (by omega) (by omega)
          have hbn : ((b + (c - 1).toNat : Nat) : Int) = (b : Int) + c - 1 := by omega
          have u2 : IntKind.i64.wrap ((b : Int) + c) = (b : Int) + c := IntWalk.i64_in _ (by omega)
          have u3 : IntKind.i64.wrap ((b : Int) + c - 1) = (b : Int) + c - 1 := IntWalk.i64_in _ (by omega)
          have hle : b + (c - 1).toNat ≤ s.size := by omega
          have HN := Lib.hid hbn
          have HE := Lib.hid hle
          clear hq c0 c1 k2 k3 hl9 hc9 hts hln hbn hle
          go_wp2_with fail
          refine bodyPost_ret (v := .tuple #[.int .i64 ((b : Int) + c - 1), .bool true]) (by simp [results, Tryd.results10, go_sem]) rfl ?_
          exact ⟨.inl ⟨_, HE.out, hys.out, by rw [HN.out]⟩, hb2⟩
      · obtain ⟨k, hk⟩ : ∃ k, k = s.size - b := ⟨_, rfl⟩
        have k3 : ∀ j, j < k → s.data.toList[b + j]? ≠ some 10 := fun j _ => k1 _ (by omega)
        rw [← hk] at hts
        have hln : t.size = k := hts
        have hb2 := bthen4 hst.out.2 hb1
        have c1' := (hst.out.1.step hb1).c1
        have v0 : IntKind.i64.wrap ((t.size : Int) + 1) = (k : Int) + 1 := (IntWalk.i64_in _ (by omega)).trans (by omega)
        by_cases hcc : (k : Int) + 1 < c
        · have hno : Hid (∀ j, j ≤ s.size → ¬ standsAt s.data.toList l c j) := fun j hj => stands_none hil2.symm hrs.out.at_ k3 (.inr (by rw [size_len_]; omega)) (by rw [size_len_]; exact hj) hcc
          clear hq c0 c1 k1 k3 hl9 hc9 hts u1 hln
          go_wp2_with fail
          go_ret2
          exact ⟨.inr ⟨hno.out, rfl⟩, hb2⟩
        · have hys : Hid (standsAt s.data.toList l c (b + (c - 1).toNat)) := stands_line hil2.symm hrs.out.at_ k3 (by omega) (by omega)
          have hbn : ((b + (c - 1).toNat : Nat) : Int) = (b : Int) + c - 1 := by omega
          have u2 : IntKind.i64.wrap ((b : Int) + c) = (b : Int) + c := IntWalk.i64_in _ (by omega)
          have u3 : IntKind.i64.wrap ((b : Int) + c - 1) = (b : Int) + c - 1 := IntWalk.i64_in _ (by omega)
          have hle : b + (c - 1).toNat ≤ s.size := by omega
          have HN := Lib.hid hbn
          have HE := Lib.hid hle
          clear hq c0 c1 k1 k3 hl9 hc9 hts hln hbn hle
          go_wp2_with fail
          refine bodyPost_ret (v := .tuple #[.int .i64 ((b : Int) + c - 1), .bool true]) (by simp [results, Tryd.results10, go_sem]) rfl ?_
          exact ⟨.inl ⟨_, HE.out, hys.out, by rw [HN.out]⟩, hb2⟩
theorem posPlace_ : PosPlaceC := by
  intro s l c w hs hl hc
  have hn := size_len_ s
  by_cases h : l < 1 ∨ (¬ l < 1 ∧ c < 1)
  · rw [plV_no (fun k hk => by
      have := spot_pos s.data.toList k
      unfold standsAt
      omega)]
    exact posPlace_low s l c h w
  · refine (posPlace_any s l c hs hl hc (by omega) (by omega) w).mono ?_
    rintro e w' ⟨h | ⟨h, he⟩, hb⟩
    · obtain ⟨k, h1, h2, h3⟩ := h
      rw [plV_yes (by omega) h2]
      exact ⟨h3, hb⟩
    · rw [plV_no (fun k hk => h k (by omega))]
      exact ⟨he, hb⟩
end

section
open Go.RowKit

/-- An empty row of texts, with room for some. -/
theorem mkTexts (n : Nat) (hn : n ≤ 100000) : ∃ cur : Array Value, cur.size = n ∧ ∀ u, (Instr.makeSlice 34 (.int .i64 0) (.int .i64 n)).run Tryd.prog u =
    .ok (.slice (some ⟨u.heap.size, 0, none⟩) 0 n) (u.alloc (.cells cur 9)) := by
  obtain ⟨i0, hi, hz0, hz1, hz2⟩ := info_parts info_str
  refine ⟨madeCells (Value.string ByteArray.empty).cells ((n : Int).toNat * i0.size), by rw [hz1]; simp [madeCells], fun u => ?_⟩
  have h := run_make (P := Tryd.prog) u 34 9 i0 (.string ByteArray.empty) Tryd.underlying34 hi hz0 .i64 .i64 0 n (by omega) (by omega) (by rw [hz2]; omega) (by omega)
  rw [h]
  simp
theorem GrowS.made (w : World) (cur : Array Value) (n : Nat) (hn : n ≤ 100000) (hs : cur.size = n) : GrowS w (.slice (some ⟨w.heap.size, 0, none⟩) 0 n) [] (w.alloc (.cells cur 9)) :=
  ⟨World.ownsRow_made w cur n (Nat.le_refl _) (by unfold maxLen; omega) (by rw [hs]; omega), below_new__ w _⟩

set_option maxHeartbeats 4000000 in
set_option maxRecDepth 100000 in
theorem posLines_ : PosLinesC := by
  intro s w hs
  have q1 := fun w => Tryd.strings_Count_one s 10 w
  have hcnt : Lib.countByte s.data.toList 10 ≤ s.size := by rw [← size_len_]; exact List.count_le_length
  generalize Lib.countByte s.data.toList 10 = n at *
  obtain ⟨cur, hcur, hmk⟩ := mkTexts (n + 1) (by omega)
  have hg0 := GrowS.made w cur (n + 1) (by omega) hcur
  have hg0 := Lib.hid hg0
  have hu : IntKind.i64.wrap ((n : Int) + 1) = ((n + 1 : Nat) : Int) := (IntWalk.i64_in _ (by omega)).trans (by omega)
  clear hcur
  generalize n + 1 = m at *
  go_enter Tryd.func13, Tryd.ntmps13
  go_wp2
  go_step3
  go_wp2_with fail
  refine (q1 _).mono ?_
  rintro e w1 ⟨rfl, rfl⟩
  go_wp2_with fail
  go_step3
  go_wp2_with fail
  clear q1 hmk hu
  go_loopw [3, 4] (fun v f W => ∃ b : Nat, b ≤ s.size ∧ f = .int .i64 b ∧ Hid ((cuts s.data.toList b).2 = b ∧ GrowS w1 v (cuts s.data.toList b).1 W)) (fun _ f _ => s.size - (intOf f).toNat)
  case atStart => exact ⟨0, by omega, rfl, rfl, hg0.out⟩
  case round =>
    obtain ⟨b, hb, rfl, hst⟩ := hrel
    clear hg0
    go_wp2_with fail
    go_loopw [3, 4, 5] (fun v f i W => ∃ j : Nat, b ≤ j ∧ j ≤ s.size ∧ i = .int .i64 j ∧ f = .int .i64 b ∧ Hid ((cuts s.data.toList j).2 = b ∧ GrowS w1 v (cuts s.data.toList j).1 W)) (fun _ _ i _ => s.size - (intOf i).toNat)
    case atStart => exact ⟨b, by omega, hb, rfl, rfl, hst⟩
    case round =>
      obtain ⟨j, hbj, hj, rfl, rfl, hst⟩ := hrel
      have hlen : (cuts s.data.toList j).1.length ≤ j := by have := (cuts_len s.data.toList j).1; have := spot_pos s.data.toList j; omega
      have hbj' : (b : Int) ≤ j := by omega
      have hjs' : (j : Int) ≤ s.size := by omega
      have hb0 : (0 : Int) ≤ b := by omega
      by_cases heq : j = s.size
      · have hext := extract_span s b s.size
        have hrows : rows s.data.toList = (cuts s.data.toList s.size).1 ++ [span s.data.toList (cuts s.data.toList s.size).2 s.size] := by rw [← size_len_ s]; rfl
        subst heq
        rw [hst.out.1] at hrows
        have HR := Lib.hid hrows
        have HE := Lib.hid hext
        have hg1 := hst.out.2
        clear hrows hext hst
        generalize (cuts s.data.toList s.size).1 = q1 at *
        have hg1 := Lib.hid hg1
        go_wp2_with (first
          | (at_builtin
             refine wpList_pushS rfl (.tmp 30) (.tmp 34) rfl _ q1 (span s.data.toList b s.size) _ w1 _ rfl hg1.out rfl ?hz ?hl ?_
             case hz => exact HE.out
             case hl => omega
             intro v' w2 hg2
             have hg2 := Lib.hid hg2))
        try rw [Exit.noGoto_ret]
        go_ret
        exact ⟨_, rfl, by rw [HR.out]; exact hg2.out⟩
      · obtain ⟨z, hz0, hz1, hidx, hz10, _⟩ := byte_at s j (by omega)
        have hne : ¬ (j : Int) = s.size := by omega
        have hlt' : (j : Int) < s.size := by omega
        by_cases h10 : z = 10
        · have hcut := cuts_nl (hz10.1 h10)
          rw [hst.out.1] at hcut
          have hcut := Lib.hid hcut
          subst h10
          have hext := extract_span s b j
          have hg1 := hst.out.2
          have HE := Lib.hid hext
          clear hz10 hext hst
          generalize (cuts s.data.toList j).1 = q1 at *
          have hg1 := Lib.hid hg1
          go_wp2_with (first
            | (at_builtin
               refine wpList_pushS rfl (.tmp 21) (.tmp 26) rfl _ q1 (span s.data.toList b j) _ w1 _ rfl hg1.out rfl ?hz ?hl ?_
               case hz => exact HE.out
               case hl => omega
               intro v' w2 hg2
               have hg2 := Lib.hid hg2))
          refine ⟨⟨j + 1, by omega, by go_num, ?_⟩, by simp [intOf]; omega⟩
          show (cuts s.data.toList (j + 1)).2 = j + 1 ∧ GrowS w1 v' (cuts s.data.toList (j + 1)).1 w2
          rw [hcut.out]
          exact ⟨rfl, hg2.out⟩
        · have hcut := Lib.hid (cuts_ch (fun h => h10 (hz10.2 h)))
          clear hz10
          go_wp2_with fail
          refine ⟨⟨j + 1, by omega, by omega, by go_num, rfl, ?_⟩, by simp [intOf]; omega⟩
          show (cuts s.data.toList (j + 1)).2 = b ∧ GrowS w1 _ (cuts s.data.toList (j + 1)).1 wr
          rw [hcut.out]
          exact hst.out
end
end Go.Proofs.YtijliimiojjjdaaDoor
