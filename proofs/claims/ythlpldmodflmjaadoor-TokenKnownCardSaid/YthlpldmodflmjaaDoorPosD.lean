/- The contract of layer 4's Place. -/
import Derived.Test.YthlpldmodflmjaaDoorPosC
namespace Go.Proofs.YthlpldmodflmjaaDoor
open Go.RowKit

/-- The bytes of a line, from its beginning on: one column a byte. -/
theorem spot_run {L : List UInt8} {b i : Nat} (hb : spot L b = (i, 1)) : ∀ m, (∀ j, j < m → L[b + j]? ≠ some 10) → spot L (b + m) = (i, m + 1)
  | 0, _ => hb
  | m + 1, h => by
    have ih := spot_run hb m (fun j hj => h j (by omega))
    rw [show b + (m + 1) = (b + m) + 1 by omega, spot_ch (h m (by omega)), ih]
theorem spot_below {L : List UInt8} {b i k : Nat} (hb : spot L b = (i, 1)) (hk : k < b) : (spot L k).1 < i := by
  have h1 := spot_lt L hk
  have h2 := spot_pos L k
  unfold ahead at h1
  rw [hb] at h1
  omega
/-- No byte 10 from a line's beginning on: nothing stands in a later line. -/
theorem spot_last {L : List UInt8} {b i k : Nat} (hb : spot L b = (i, 1)) (h : ∀ j, b ≤ j → L[j]? ≠ some 10) : (spot L k).1 ≤ i := by
  rcases Nat.lt_or_ge k b with h1 | h1
  · exact Nat.le_of_lt (spot_below hb h1)
  · obtain ⟨m, rfl⟩ := Nat.exists_eq_add_of_le h1
    rw [spot_run hb m (fun j _ => h _ (by omega))]
    exact Nat.le_refl _
/-- Where a line's places are. -/
theorem stands_line {L : List UInt8} {b m : Nat} {l c : Int} {i : Nat} (hl : l = (i : Nat)) (hb : spot L b = (i, 1)) (hm : ∀ j, j < m → L[b + j]? ≠ some 10) (h1 : 1 ≤ c) (h2 : c ≤ m + 1) : standsAt L l c (b + (c - 1).toNat) := by
  have := spot_run hb (c - 1).toNat (fun j hj => hm j (by omega))
  unfold standsAt
  rw [this]
  simp only
  omega
theorem stands_none {L : List UInt8} {b m k : Nat} {l c : Int} {i : Nat} (hl : l = (i : Nat)) (hb : spot L b = (i, 1)) (hm : ∀ j, j < m → L[b + j]? ≠ some 10) (hend : L[b + m]? = some 10 ∨ L.length = b + m) (hk : k ≤ L.length) (h2 : (m : Int) + 1 < c) : ¬ standsAt L l c k := by
  unfold standsAt
  rintro ⟨e1, e2⟩
  rcases Nat.lt_or_ge k b with h3 | h3
  · have := spot_below hb h3
    omega
  · obtain ⟨j, rfl⟩ := Nat.exists_eq_add_of_le h3
    rcases Nat.lt_or_ge m j with h4 | h4
    · rcases hend with h | h
      · have e := spot_run hb m hm
        have e3 := spot_nl h
        rw [e] at e3
        simp only at e3
        rcases Nat.lt_or_ge (b + m + 1) (b + j) with h5 | h5
        · have h6 := spot_lt L h5
          unfold ahead at h6
          rw [e3] at h6
          simp only at h6
          omega
        · rw [show b + j = b + m + 1 by omega, e3] at e1
          simp only at e1
          omega
      · omega
    · have e := spot_run hb j (fun x hx => hm x (by omega))
      rw [e] at e2
      simp only at e2
      omega

/-- The rest of a text, cut at its first byte 10. -/
theorem ext_len (s : ByteArray) (b : Nat) : (s.extract b s.size).size = s.size - b := by simp
theorem ext_get (s : ByteArray) (b j : Nat) : (s.extract b s.size).data.toList[j]? = s.data.toList[b + j]? := by
  have h : (s.extract b s.size).data.toList = s.data.toList.drop b := by
    rw [extract_span]
    simp only [span]
    rw [List.take_of_length_le (by rw [size_len_]; exact Nat.le_refl _)]
  rw [h, List.getElem?_drop]
theorem ext_ext (s : ByteArray) (b i j : Nat) (hj : b + j ≤ s.size) : (s.extract b s.size).extract i j = s.extract (b + i) (b + j) := by
  rw [ByteArray.extract_extract]
  congr 1
  omega
theorem cutRest (s : ByteArray) (b : Nat) (w : World) (hb : b ≤ s.size) (hs : s.size ≤ 1000) :
    Calls Tryd.prog 39 #[.string (s.extract b s.size), .string ⟨#[10]⟩] w fun e w' =>
      ((∃ k : Nat, b + k < s.size ∧ s.data.toList[b + k]? = some 10 ∧ (∀ j, j < k → s.data.toList[b + j]? ≠ some 10) ∧ e = .returned (.tuple #[.string (s.extract b (b + k)), .string (s.extract (b + k + 1) s.size), .bool true])) ∨
      ((∀ j, b ≤ j → s.data.toList[j]? ≠ some 10) ∧ e = .returned (.tuple #[.string (s.extract b s.size), .string ⟨#[]⟩, .bool false]))) ∧ Below w.heap.size w w' := by
  have hsz := ext_len s b
  refine (cutOne (s.extract b s.size) 10 w (by omega)).mono ?_
  rintro e w' ⟨⟨k, h1, h2, h3, rfl⟩ | ⟨h1, rfl⟩, h⟩
  · refine ⟨.inl ⟨k, by omega, by rw [← ext_get s b k]; exact h2, fun j hj => by rw [← ext_get s b j]; exact h3 j hj, ?_⟩, h⟩
    rw [hsz, ext_ext s b 0 k (by omega), ext_ext s b (k + 1) (s.size - b) (by omega), show b + (s.size - b) = s.size by omega]
    rfl
  · refine ⟨.inr ⟨fun j hj e => ?_, rfl⟩, h⟩
    obtain ⟨i, rfl⟩ := Nat.exists_eq_add_of_le hj
    rw [← ext_get s b i] at e
    exact h1 10 (List.mem_iff_getElem?.2 ⟨i, e⟩) rfl

set_option maxHeartbeats 1000000 in
theorem posPlace_low (s : ByteArray) (l c : Int) (h : l < 1 ∨ (¬ l < 1 ∧ c < 1)) (w : World) :
    Calls Tryd.prog 22 #[.string s, .agg #[.int .i64 l, .int .i64 c]] w fun e w' => e = .returned (.tuple #[.int .i64 0, .bool false]) ∧ Below w.heap.size w w' := by
  have hp := PB.new w l c 32
  have c0 := hp.c0
  have c1 := hp.c1
  have hb := below_new__ w (.cells #[.int .i64 l, .int .i64 c] 32)
  rcases h with h | ⟨h, h2⟩
  · go_enter Tryd.func22, Tryd.ntmps22
    go_wp2_with fail
    go_ret2
    exact ⟨rfl, hb⟩
  · go_enter Tryd.func22, Tryd.ntmps22
    go_wp2_with fail
    go_ret2
    exact ⟨rfl, hb⟩

/-- What the loop holds: the rest begins where line i does. -/
structure RS (s : ByteArray) (t : ByteArray) (i b : Nat) : Prop where
  eq : t = s.extract b s.size
  le : b ≤ s.size
  at_ : spot s.data.toList b = (i, 1)

set_option maxHeartbeats 4000000 in
theorem posPlace_any (s : ByteArray) (l c : Int) (hs : s.size ≤ 1000) (hl : in64 l) (hc : in64 c) (h1 : ¬ l < 1) (h2 : ¬ c < 1) (w : World) :
    Calls Tryd.prog 22 #[.string s, .agg #[.int .i64 l, .int .i64 c]] w fun e w' => PlaceEnd s l c e ∧ Below w.heap.size w w' := by
  have hp := PB.new w l c 32
  have hb0 := below_new__ w (.cells #[.int .i64 l, .int .i64 c] 32)
  have hst0 : Hid (PB (w.alloc (.cells #[.int .i64 l, .int .i64 c] 32)) w.heap.size l c ∧ Below w.heap.size w (w.alloc (.cells #[.int .i64 l, .int .i64 c] 32))) := ⟨hp, hb0⟩
  have HL := Lib.hid hl
  have HC := Lib.hid hc
  have c0 := hp.c0
  have c1 := hp.c1
  clear hl hc hp hb0
  go_enter Tryd.func22, Tryd.ntmps22
  go_wp2_with fail
  clear c0 c1
  go_loopw [6, 7] (fun r v W => ∃ (t : ByteArray) (i b : Nat), r = .string t ∧ v = .int .i64 i ∧ (i : Int) ≤ l ∧ Hid (RS s t i b) ∧ Hid (PB W w.heap.size l c ∧ Below w.heap.size w W)) (fun _ v _ => l.toNat - (intOf v).toNat)
  case atStart => exact ⟨s, 1, 0, rfl, rfl, by omega, ⟨by simp, by omega, rfl⟩, hst0⟩
  case round =>
    obtain ⟨t, i, b, rfl, rfl, hil, hrs, hst⟩ := hrel
    clear hst0
    have c0 := hst.out.1.c0
    have c1 := hst.out.1.c1
    have hq := cutRest s b wr hrs.out.le hs
    rw [← hrs.out.eq] at hq
    by_cases hlt : (i : Int) < l
    · go_wp2_with fail
      refine hq.mono ?_
      rintro e w1 ⟨⟨k, k1, k2, k3, rfl⟩ | ⟨k1, rfl⟩, hb1⟩
      · have hst1 : Hid (PB w1 w.heap.size l c ∧ Below w.heap.size w w1) := ⟨hst.out.1.step hb1, bthen4 hst.out.2 hb1⟩
        have hrs1 : Hid (RS s (s.extract (b + k + 1) s.size) (i + 1) (b + k + 1)) := ⟨rfl, by omega, by
          rw [spot_nl k2, spot_run hrs.out.at_ k k3]⟩
        have hl9 := HL.out.2
        have hiu : IntKind.i64.wrap ((i : Int) + 1) = (i : Int) + 1 := IntWalk.i64_in _ (by omega)
        generalize s.extract (b + k + 1) s.size = t2 at *
        clear hq c0 c1 k2 k3 hl9
        go_wp2_with fail
        exact ⟨⟨t2, i + 1, b + k + 1, rfl, by first | rfl | simp, by omega, hrs1, hst1⟩, by simp [intOf]; omega⟩
      · have hno : Hid (∀ k, k ≤ s.size → ¬ standsAt s.data.toList l c k) := fun k _ h => by
          have h5 := spot_last (k := k) hrs.out.at_ k1
          unfold standsAt at h
          omega
        have hb2 := bthen4 hst.out.2 hb1
        clear hq c0 c1 k1
        go_wp2_with fail
        go_ret2
        exact ⟨.inr ⟨hno.out, rfl⟩, hb2⟩
    · have hil2 : (i : Int) = l := by omega
      have hbs := hrs.out.le
      have hl9 := HL.out.2
      have hc9 := HC.out.2
      have hts : t.size = s.size - b := by rw [hrs.out.eq]; exact ext_len s b
      have u1 : IntKind.i64.wrap ((s.size : Int) - t.size) = b := (IntWalk.i64_in _ (by omega)).trans (by omega)
      go_wp2_with fail
      refine hq.mono ?_
      rintro e w1 ⟨⟨k, k1, k2, k3, rfl⟩ | ⟨k1, rfl⟩, hb1⟩
      · have hln : (s.extract b (b + k)).size = k := by simp; omega
        have hb2 := bthen4 hst.out.2 hb1
        have c1' := (hst.out.1.step hb1).c1
        have v0 : IntKind.i64.wrap (((s.extract b (b + k)).size : Int) + 1) = (k : Int) + 1 := (IntWalk.i64_in _ (by omega)).trans (by omega)
        generalize s.extract b (b + k) = ln at *
        generalize s.extract (b + k + 1) s.size = rs at *
        by_cases hcc : (k : Int) + 1 < c
        · have hno : Hid (∀ j, j ≤ s.size → ¬ standsAt s.data.toList l c j) := fun j hj => stands_none hil2.symm hrs.out.at_ k3 (.inl k2) (by rw [size_len_]; exact hj) hcc
          clear hq c0 c1 k2 k3 hl9 hc9 hts u1 hln
          go_wp2_with fail
          go_ret2
          exact ⟨.inr ⟨hno.out, rfl⟩, hb2⟩
        · have hys : Hid (standsAt s.data.toList l c (b + (c - 1).toNat)) := stands_line hil2.symm hrs.out.at_ k3 (by omega) (by omega)
          have hbn : ((b + (c - 1).toNat : Nat) : Int) = (b : Int) + c - 1 := by omega
          have u2 : IntKind.i64.wrap ((b : Int) + c) = (b : Int) + c := IntWalk.i64_in _ (by omega)
          have u3 : IntKind.i64.wrap ((b : Int) + c - 1) = (b : Int) + c - 1 := IntWalk.i64_in _ (by omega)
          have hle : b + (c - 1).toNat ≤ s.size := by omega
          have HN := Lib.hid hbn
          have HE := Lib.hid hle
          clear hq c0 c1 k2 k3 hl9 hc9 hts hln hbn hle
          go_wp2_with fail
          refine bodyPost_ret (v := .tuple #[.int .i64 ((b : Int) + c - 1), .bool true]) (by simp [results, Tryd.results22, go_sem]) rfl ?_
          exact ⟨.inl ⟨_, HE.out, hys.out, by rw [HN.out]⟩, hb2⟩
      · obtain ⟨k, hk⟩ : ∃ k, k = s.size - b := ⟨_, rfl⟩
        have k3 : ∀ j, j < k → s.data.toList[b + j]? ≠ some 10 := fun j _ => k1 _ (by omega)
        rw [← hk] at hts
        have hln : t.size = k := hts
        have hb2 := bthen4 hst.out.2 hb1
        have c1' := (hst.out.1.step hb1).c1
        have v0 : IntKind.i64.wrap ((t.size : Int) + 1) = (k : Int) + 1 := (IntWalk.i64_in _ (by omega)).trans (by omega)
        by_cases hcc : (k : Int) + 1 < c
        · have hno : Hid (∀ j, j ≤ s.size → ¬ standsAt s.data.toList l c j) := fun j hj => stands_none hil2.symm hrs.out.at_ k3 (.inr (by rw [size_len_]; omega)) (by rw [size_len_]; exact hj) hcc
          clear hq c0 c1 k1 k3 hl9 hc9 hts u1 hln
          go_wp2_with fail
          go_ret2
          exact ⟨.inr ⟨hno.out, rfl⟩, hb2⟩
        · have hys : Hid (standsAt s.data.toList l c (b + (c - 1).toNat)) := stands_line hil2.symm hrs.out.at_ k3 (by omega) (by omega)
          have hbn : ((b + (c - 1).toNat : Nat) : Int) = (b : Int) + c - 1 := by omega
          have u2 : IntKind.i64.wrap ((b : Int) + c) = (b : Int) + c := IntWalk.i64_in _ (by omega)
          have u3 : IntKind.i64.wrap ((b : Int) + c - 1) = (b : Int) + c - 1 := IntWalk.i64_in _ (by omega)
          have hle : b + (c - 1).toNat ≤ s.size := by omega
          have HN := Lib.hid hbn
          have HE := Lib.hid hle
          clear hq c0 c1 k1 k3 hl9 hc9 hts hln hbn hle
          go_wp2_with fail
          refine bodyPost_ret (v := .tuple #[.int .i64 ((b : Int) + c - 1), .bool true]) (by simp [results, Tryd.results22, go_sem]) rfl ?_
          exact ⟨.inl ⟨_, HE.out, hys.out, by rw [HN.out]⟩, hb2⟩
theorem posPlace_ : PosPlaceC := by
  intro s l c w hs hl hc
  have hn := size_len_ s
  by_cases h : l < 1 ∨ (¬ l < 1 ∧ c < 1)
  · rw [plV_no (fun k hk => by
      have := spot_pos s.data.toList k
      unfold standsAt
      omega)]
    exact posPlace_low s l c h w
  · refine (posPlace_any s l c hs hl hc (by omega) (by omega) w).mono ?_
    rintro e w' ⟨h | ⟨h, he⟩, hb⟩
    · obtain ⟨k, h1, h2, h3⟩ := h
      rw [plV_yes (by omega) h2]
      exact ⟨h3, hb⟩
    · rw [plV_no (fun k hk => h k (by omega))]
      exact ⟨he, hb⟩
end Go.Proofs.YthlpldmodflmjaaDoor
