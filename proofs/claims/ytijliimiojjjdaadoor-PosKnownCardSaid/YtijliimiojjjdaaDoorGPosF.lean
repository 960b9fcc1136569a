/- The contracts of layer 4's Cmp, and of texts of positions and faults. The contracts of layer 4's Read and ReadFault. The contract of layer 4's First. -/
import Derived.Test.YtijliimiojjjdaaDoorGPosC
import Derived.Test.YtijliimiojjjdaaDoorGRefU
import Derived.Test.YtijliimiojjjdaaDoorGRefW
namespace Go.Proofs.YtijliimiojjjdaaDoor
section
open Go.RowKit

set_option maxHeartbeats 1000000 in
theorem cmpOr (x y r : Int) (hr : Hid ((¬ x = 0 → r = x) ∧ (x = 0 → r = y))) (g : Nat) (w : World) (h0 : w.cell? ⟨g, 0, none⟩ = some (.int .i64 x)) (h1 : w.cell? ⟨g, 1, none⟩ = some (.int .i64 y)) :
    Calls Tryd.prog 37 #[.slice (some ⟨g, 0, none⟩) 2 2] w fun e w' => e = .returned (.int .i64 r) ∧ w' = w := by
  go_enter Tryd.func37, Tryd.ntmps37
  go_wp2_with fail
  go_loopw [8] (fun v W => ∃ i : Nat, i ≤ 2 ∧ v = .int .i64 i ∧ (1 ≤ i → x = 0) ∧ (2 ≤ i → y = 0) ∧ W = w) (fun v _ => 2 - (intOf v).toNat)
  case atStart => exact ⟨0, by omega, rfl, by omega, by omega, rfl⟩
  case round =>
    obtain ⟨i, hi, rfl, hx, hy, rfl⟩ := hrel
    have hi3 : i = 0 ∨ i = 1 ∨ i = 2 := by omega
    rcases hi3 with rfl | rfl | rfl
    · by_cases hx0 : x = 0
      · subst hx0
        go_wp2_with fail
        exact ⟨⟨1, by omega, by go_num, fun _ => by trivial, by omega, by first | rfl | trivial⟩, by simp [intOf]⟩
      · have hr2 := Lib.hid (hr.out.1 hx0)
        clear hr
        go_wp2_with fail
        go_ret
        exact ⟨by rw [hr2.out]; rfl, rfl⟩
    · obtain rfl := hx (by omega)
      have hr2 := Lib.hid (hr.out.2 rfl)
      clear hx hr
      by_cases hy0 : y = 0
      · subst hy0
        go_wp2_with fail
        exact ⟨⟨2, by omega, by go_num, fun _ => by trivial, fun _ => by trivial, by first | rfl | trivial⟩, by simp [intOf]⟩
      · go_wp2_with fail
        go_ret
        exact ⟨by rw [hr2.out]; rfl, rfl⟩
    · obtain rfl := hx (by omega)
      obtain rfl := hy (by omega)
      have hr2 := Lib.hid (hr.out.2 rfl)
      clear hx hy hr
      go_wp2_with fail
      go_ret
      exact ⟨by rw [hr2.out]; rfl, rfl⟩

theorem cmp_of (l c l' c' : Int) : (¬ Lib.compareInt l l' = 0 → posCmp l c l' c' = Lib.compareInt l l') ∧ (Lib.compareInt l l' = 0 → posCmp l c l' c' = Lib.compareInt c c') := by
  unfold posCmp Lib.compareInt
  constructor <;> ((repeat' split) <;> omega)

set_option maxHeartbeats 2000000 in
theorem posCmp_ : PosCmpC := by
  intro l c l' c' w hl hc hl' hc'
  have HV := Lib.hid (cmp_of l c l' c')
  have q1 := fun w => Tryd.cmp_Compare_int l l' w
  have q2 := fun w => Tryd.cmp_Compare_int c c' w
  have hpa := (PB.new w l c 23).step (below_new__ _ (.cells #[.int .i64 l', .int .i64 c'] 23))
  have hpb := PB.new (w.alloc (.cells #[.int .i64 l, .int .i64 c] 23)) l' c' 23
  have hb0 := bthen4 (below_new__ w (.cells #[.int .i64 l, .int .i64 c] 23)) (below_new__ _ (.cells #[.int .i64 l', .int .i64 c'] 23))
  rw [show (w.alloc (.cells #[.int .i64 l, .int .i64 c] 23)).heap.size = w.heap.size + 1 by simp] at hpb
  clear hl hc hl' hc'
  generalize posCmp l c l' c' = r at *
  generalize Lib.compareInt l l' = x at *
  generalize Lib.compareInt c c' = y at *
  go_enter Tryd.func25, Tryd.ntmps25
  go_wp2_with fail
  generalize (w.alloc (.cells #[.int .i64 l, .int .i64 c] 23)).alloc (.cells #[.int .i64 l', .int .i64 c'] 23) = W at *
  have hd := Below.refl W.heap.size W
  have ha := Lib.hid (hpa.step hd.drew)
  have hb := Lib.hid (hpb.step hd.drew)
  have s0 := And.intro ha.out.c0 (And.intro ha.out.c1 (And.intro hb.out.c0 hb.out.c1))
  have hn := (below_new__ W (.cells #[.int .i64 x, .int .i64 y] 3)).drew
  have hbn := bthen4 hb0 hn
  have s1 := And.intro (hpa.step hn).c0 (And.intro (hpa.step hn).c1 (And.intro (hpb.step hn).c0 (hpb.step hn).c1))
  have q3 := fun W' => cmpOr x y r HV (W.heap.size) W'
  clear hpa hpb hd hn
  go_region_held3 (fun w' => w'.cell? ⟨w.heap.size, 0, none⟩ = some (.int .i64 l) ∧ w'.cell? ⟨w.heap.size, 1, none⟩ = some (.int .i64 c) ∧ w'.cell? ⟨w.heap.size + 1, 0, none⟩ = some (.int .i64 l') ∧ w'.cell? ⟨w.heap.size + 1, 1, none⟩ = some (.int .i64 c')) (first | exact s0 | exact s1)
    (first
      | (go_at_call 38
         with_reducible refine (q1 W.drew).mono ?_
         rintro e w2 ⟨rfl, rfl⟩)
      | (go_at_call 38
         with_reducible refine (q2 W.drew).mono ?_
         rintro e w2 ⟨rfl, rfl⟩)
      | (go_at_call 37
         with_reducible refine (q3 _ (by simp [go_sem]) (by simp [go_sem])).mono ?_
         rintro e w3 ⟨rfl, rfl⟩))
  all_goals
    (go_wp2_with fail
     go_ret
     exact ⟨rfl, hbn⟩)

set_option maxHeartbeats 400000 in
theorem posDigits (n : Int) (hn : in64 n) (w : World) (hL : LaidT w) :
    Calls Tryd.prog 32 #[.int .i64 n] w fun e w' => e = .returned (.string (txt (Lib.itoa n))) ∧ Below w.heap.size w w' := by
  have hq := deciWholeT n hn.1 hn.2 w hL
  rw [show (⟨(Lib.itoa n).toArray⟩ : ByteArray) = txt (Lib.itoa n) from rfl] at hq
  generalize txt (Lib.itoa n) = S at *
  clear hn
  go_enter Tryd.func32, Tryd.ntmps32
  go_wp2_with fail
  refine hq.mono ?_
  rintro e w1 ⟨rfl, hb⟩
  go_wp2_with fail
  go_ret
  exact ⟨rfl, hb⟩

set_option maxHeartbeats 1000000 in
theorem posText_ : PosTextC := by
  intro l c w hL hl hc
  have hp := PB.new w l c 23
  have hb0 := below_new__ w (.cells #[.int .i64 l, .int .i64 c] 23)
  have hL0 := hL.below hb0
  have q1 := fun w hL => posDigits l hl w hL
  have q2 := fun w hL => posDigits c hc w hL
  have z1 := itoa_size hl
  have z2 := itoa_size hc
  have HT := Lib.hid (posText_txt l c)
  generalize txt (posText l c) = T at *
  generalize txt (Lib.itoa l) = a at *
  generalize txt (Lib.itoa c) = b at *
  clear hL hl hc
  go_enter Tryd.func27, Tryd.ntmps27
  go_wp2_with fail
  generalize w.alloc (.cells #[.int .i64 l, .int .i64 c] 23) = W at *
  have hp0 := Lib.hid (hp.step (Below.refl W.heap.size W).drew)
  have hL1 := hL0.below (Below.refl W.heap.size W).drew
  have hbd := hb0.drew
  have s0 := And.intro hp0.out.c0 hp0.out.c1
  have hlt := hp.lt
  clear hb0 hp hL0
  have f1 : (9223372036854775807 < a.size + 1) = False := by simp; omega
  have f2 : (9223372036854775806 < a.size) = False := by simp; omega
  have f3 : (9223372036854775807 < a.size + 1 + b.size) = False := by simp; omega
  go_region_held3 (fun w' => w'.cell? ⟨w.heap.size, 0, none⟩ = some (.int .i64 l) ∧ w'.cell? ⟨w.heap.size, 1, none⟩ = some (.int .i64 c)) (first | exact s0 | exact s1 | exact s2)
    (first
      | (go_at_call 32
         with_reducible refine (q1 W.drew hL1).mono ?_
         rintro e w2 ⟨rfl, hb2⟩
         have hp2 := Lib.hid (hp0.out.step hb2)
         have hL2 := hL1.below hb2
         have s1 := And.intro hp2.out.c0 hp2.out.c1
         have hbw2 := hbd.trans (hb2.mono (Nat.le_of_lt hlt)))
      | (go_at_call 32
         with_reducible refine (q2 w2 hL2).mono ?_
         rintro e w3 ⟨rfl, hb3⟩
         have hp3 := Lib.hid (hp2.out.step hb3)
         have s2 := And.intro hp3.out.c0 hp3.out.c1
         have hbw3 := hbw2.trans (hb3.mono hbw2.size)))
  all_goals
    (go_wp2_with fail
     go_ret
     exact ⟨by rw [← HT.out]; rfl, hbw3⟩)

set_option maxHeartbeats 1000000 in
theorem faultText_ : FaultTextC := by
  intro l c n w hL hl hc hn
  have hp := FB3.new w l c n 45
  have hb0 := below_new_v w (.cells #[.int .i64 l, .int .i64 c, .int .i64 n] 45)
  have hL0 := hL.below hb0
  have q1 := fun w hL => posText_ l c w hL hl hc
  have q2 := fun w hL => posDigits n hn w hL
  have z1 : (txt (posText l c)).size ≤ 43 := by rw [txt_size]; exact posText_len hl hc
  have z2 := itoa_size hn
  have HT := Lib.hid (faultText_txt l c n)
  generalize txt (faultText l c n) = T at *
  generalize txt (posText l c) = a at *
  generalize txt (Lib.itoa n) = b at *
  clear hL hl hc hn
  go_enter Tryd.func17, Tryd.ntmps17
  go_wp2_with fail
  generalize w.alloc (.cells #[.int .i64 l, .int .i64 c, .int .i64 n] 45) = W at *
  have hp0 := Lib.hid (hp.step (Below.refl W.heap.size W).drew)
  have hL1 := hL0.below (Below.refl W.heap.size W).drew
  have hbd := hb0.drew
  have s0 := And.intro hp0.out.c0 (And.intro hp0.out.c1 hp0.out.c2)
  have hlt := hp.lt
  clear hb0 hp hL0
  have f1 : (9223372036854775807 < a.size + 1) = False := by simp; omega
  have f2 : (9223372036854775806 < a.size) = False := by simp; omega
  have f3 : (9223372036854775807 < a.size + 1 + b.size) = False := by simp; omega
  go_region_held3 (fun w' => w'.cell? ⟨w.heap.size, 0, none⟩ = some (.int .i64 l) ∧ w'.cell? ⟨w.heap.size, 1, none⟩ = some (.int .i64 c) ∧ w'.cell? ⟨w.heap.size, 2, none⟩ = some (.int .i64 n)) (first | exact s0 | exact s1 | exact s2)
    (first
      | (go_at_call 27
         with_reducible refine (q1 W.drew hL1).mono ?_
         rintro e w2 ⟨rfl, hb2⟩
         have hp2 := Lib.hid (hp0.out.step hb2)
         have hL2 := hL1.below hb2
         have s1 := And.intro hp2.out.c0 (And.intro hp2.out.c1 hp2.out.c2)
         have hbw2 := hbd.trans (hb2.mono (Nat.le_of_lt hlt)))
      | (go_at_call 32
         with_reducible refine (q2 w2 hL2).mono ?_
         rintro e w3 ⟨rfl, hb3⟩
         have hp3 := Lib.hid (hp2.out.step hb3)
         have s2 := And.intro hp3.out.c0 (And.intro hp3.out.c1 hp3.out.c2)
         have hbw3 := hbw2.trans (hb3.mono hbw2.size)))
  all_goals
    (go_wp2_with fail
     go_ret
     exact ⟨by rw [← HT.out]; rfl, hbw3⟩)
end

section
open Go.RowKit

theorem itoa_some (v : Int) : Lib.itoa v ≠ [] := by
  unfold Lib.itoa
  split
  · simp
  · have := dec_canon v.toNat
    intro h
    rw [h] at this
    exact absurd this (by unfold Canon; simp)

set_option maxHeartbeats 1000000 in
theorem posNumber (s : ByteArray) (w : World) (hL : Laid w) (hs : s.size ≤ 1000) :
    Calls Tryd.prog 34 #[.string s] w fun e w' => ((∃ v, in64 v ∧ s.data.toList = Lib.itoa v ∧ e = .returned (.tuple #[.int .i64 v, .bool true])) ∨
      ((∀ v, in64 v → s.data.toList ≠ Lib.itoa v) ∧ e = .returned (.tuple #[.int .i64 0, .bool false]))) ∧ Below w.heap.size w w' := by
  by_cases h : ∃ v, spells s.data.toList v
  · obtain ⟨v, hv⟩ := h
    have hb := (spells_iff _ _).1 hv
    have hq := fun w hL => parseWhole_yes s v w hL (by omega) hv hb.1.1 hb.1.2
    have HB := Lib.hid hb
    clear hb hv
    go_enter Tryd.func34, Tryd.ntmps34
    go_wp2_with fail
    refine (hq _ hL).mono ?_
    rintro e w1 ⟨rfl, hb1⟩
    clear hq
    go_wp2_with fail
    go_ret2
    exact ⟨.inl ⟨v, HB.out.1, HB.out.2.symm, rfl⟩, hb1⟩
  · have hq := fun w hL => parseWhole_no s w hL (by omega) h
    have HN : Hid (∀ v, in64 v → s.data.toList ≠ Lib.itoa v) := fun v hv e => h ⟨v, (spells_iff _ _).2 ⟨hv, e.symm⟩⟩
    clear h
    go_enter Tryd.func34, Tryd.ntmps34
    go_wp2_with fail
    refine (hq _ hL).mono ?_
    rintro e w1 ⟨rfl, hb1⟩
    clear hq
    go_wp2_with fail
    go_ret2
    exact ⟨.inr ⟨HN.out, rfl⟩, hb1⟩

/-- strings.Cut at one byte, in lists. -/
def CutIs (s : ByteArray) (c : UInt8) (a b : ByteArray) (f : Bool) : Prop :=
  (f = true ∧ s.data.toList = a.data.toList ++ c :: b.data.toList ∧ ∀ d ∈ a.data.toList, d ≠ c) ∨ (f = false ∧ (∀ d ∈ s.data.toList, d ≠ c) ∧ a = s ∧ b = ⟨#[]⟩)
theorem cutTwo (s : ByteArray) (c : UInt8) (w : World) (hs : s.size ≤ 1000) :
    Calls Tryd.prog 31 #[.string s, .string ⟨#[c]⟩] w fun e w' => (∃ (a b : ByteArray) (f : Bool), e = .returned (.tuple #[.string a, .string b, .bool f]) ∧ a.size ≤ 1000 ∧ b.size ≤ 1000 ∧ CutIs s c a b f) ∧ Below w.heap.size w w' := by
  refine (cutOne s c w (by omega)).mono ?_
  rintro e w' ⟨⟨k, h1, h2, h3, rfl⟩ | ⟨h1, rfl⟩, h⟩
  · refine ⟨⟨_, _, true, rfl, by simp; omega, by simp; omega, .inl ⟨rfl, ?_, ?_⟩⟩, h⟩
    · rw [extract_span, extract_span]
      unfold span
      simp only [List.drop_zero]
      have hk : k < s.data.toList.length := by rw [size_len_]; exact h1
      have e1 : s.data.toList.drop k = c :: s.data.toList.drop (k + 1) := by
        rw [List.drop_eq_getElem_cons hk]
        rw [List.getElem?_eq_getElem hk] at h2
        injection h2 with h2
        rw [h2]
      rw [List.take_of_length_le (i := s.size) (by rw [size_len_]; exact Nat.le_refl _), ← e1, List.take_append_drop]
    · intro d hd e
      rw [extract_span] at hd
      unfold span at hd
      simp only [List.drop_zero] at hd
      obtain ⟨j, hj⟩ := List.mem_iff_getElem?.1 hd
      have hjk : j < k := by
        have := (List.getElem?_eq_some_iff.1 hj).1
        rw [List.length_take] at this
        omega
      rw [List.getElem?_take_of_lt hjk] at hj
      exact h3 j hjk (by rw [hj, e])
  · exact ⟨⟨s, _, false, rfl, hs, by decide, .inr ⟨rfl, h1, rfl, rfl⟩⟩, h⟩
theorem read_yes {s a b : ByteArray} {f : Bool} (h : CutIs s 58 a b f) {v1 v2 : Int} (h1 : in64 v1) (h2 : in64 v2) (ha : a.data.toList = Lib.itoa v1) (hb : b.data.toList = Lib.itoa v2) : readV s.data.toList = (v1, v2, true) := by
  rcases h with ⟨_, h, _⟩ | ⟨_, _, _, rfl⟩
  · rw [h, ha, hb]
    exact readV_yes h1 h2
  · exact absurd hb.symm (itoa_some _)
theorem read_no {s a b : ByteArray} {f : Bool} (h : CutIs s 58 a b f) (hn : (∀ v, in64 v → a.data.toList ≠ Lib.itoa v) ∨ (∀ v, in64 v → b.data.toList ≠ Lib.itoa v)) : readV s.data.toList = (0, 0, false) := by
  rcases h with ⟨_, h, h2⟩ | ⟨_, h, _⟩
  · exact readV_cut h h2 hn
  · exact readV_none h
theorem readF_yes_ {s a b : ByteArray} {f : Bool} (h : CutIs s 32 a b f) {v1 v2 v3 : Int} (h1 : in64 v1) (h2 : in64 v2) (h3 : in64 v3) (ha : a.data.toList = posText v1 v2) (hb : b.data.toList = Lib.itoa v3) : readF s.data.toList = (v1, v2, v3, true) := by
  rcases h with ⟨_, h, _⟩ | ⟨_, _, _, rfl⟩
  · rw [h, ha, hb]
    exact readF_yes h1 h2 h3
  · exact absurd hb.symm (itoa_some _)
theorem readF_no_ {s a b : ByteArray} {f : Bool} (h : CutIs s 32 a b f) (hn : (∀ l c, in64 l → in64 c → a.data.toList ≠ posText l c) ∨ (∀ v, in64 v → b.data.toList ≠ Lib.itoa v)) : readF s.data.toList = (0, 0, 0, false) := by
  rcases h with ⟨_, h, h2⟩ | ⟨_, h, _⟩
  · exact readF_cut h h2 hn
  · exact readF_none h

set_option maxHeartbeats 2000000 in
theorem posRead_ : PosReadC := by
  intro s w hL hs
  have hb0 := below_new__ w (.cells #[.int .i64 0, .int .i64 0] 23)
  have hp0 := PB.new w 0 0 23
  have hL0 := hL.below hb0
  have qc := fun w => cutTwo s 58 w hs
  clear hL
  go_enter Tryd.func21, Tryd.ntmps21
  go_wp2_with fail
  refine (qc _).mono ?_
  rintro e w1 ⟨⟨a, b, f, rfl, hsa, hsb, hcut⟩, hb1⟩
  have hp1 := hp0.step hb1
  have hbw1 := bthen4 hb0 hb1
  have hL1 := hL0.below hb1
  have HC := Lib.hid hcut
  clear hb0 hp0 hb1 qc hcut hL0
  go_wp2_with fail
  refine (posNumber a w1 hL1 hsa).mono ?_
  rintro e w2 ⟨hr1, hb2⟩
  have hp2 := hp1.step hb2
  have hbw2 := bthen4 hbw1 hb2
  have hL2 := hL1.below hb2
  clear hp1 hbw1 hL1 hb2
  rcases hr1 with ⟨v1, hv1, ht1, rfl⟩ | ⟨hn1, rfl⟩
  · have T1 := Lib.hid (And.intro hv1 ht1)
    clear hv1 ht1
    go_wp2_with fail
    refine (posNumber b w2 hL2 hsb).mono ?_
    rintro e w3 ⟨hr2, hb3⟩
    have hp3 := hp2.step hb3
    have hbw3 := bthen4 hbw2 hb3
    have f0 := hp3.f0
    have f1 := hp3.f1
    have c0 := hp3.c0
    have c1 := hp3.c1
    clear hp2 hbw2 hL2 hb3
    rcases hr2 with ⟨v2, hv2, ht2, rfl⟩ | ⟨hn2, rfl⟩
    · have hV := Lib.hid (read_yes HC.out T1.out.1 hv2 T1.out.2 ht2)
      clear hv2 ht2
      go_wp2_with fail
      refine bodyPost_ret (v := .tuple #[.agg #[.int .i64 v1, .int .i64 v2], .bool true]) (by simp [results, Tryd.results21, go_sem, c0, c1]) rfl ?_
      rw [hV.out]
      exact ⟨rfl, (hbw3.setCell (Nat.le_refl _) _).setCell (Nat.le_refl _) _⟩
    · have hV := Lib.hid (read_no HC.out (.inr hn2))
      clear hn2
      go_wp2_with fail
      refine bodyPost_ret (v := .tuple #[.agg #[.int .i64 0, .int .i64 0], .bool false]) (by simp [results, Tryd.results21, go_sem, c0, c1]) rfl ?_
      rw [hV.out]
      exact ⟨rfl, by first | exact (hbw3.setCell (Nat.le_refl _) _).setCell (Nat.le_refl _) _ | exact hbw3⟩
  · have hV := Lib.hid (read_no HC.out (.inl hn1))
    clear hn1
    go_wp2_with fail
    refine (posNumber b w2 hL2 hsb).mono ?_
    rintro e w3 ⟨hr2, hb3⟩
    have hp3 := hp2.step hb3
    have hbw3 := bthen4 hbw2 hb3
    have f0 := hp3.f0
    have f1 := hp3.f1
    have c0 := hp3.c0
    have c1 := hp3.c1
    clear hp2 hbw2 hL2 hb3
    have hr3 : ∃ (v2 : Int) (f2 : Bool), e = .returned (.tuple #[.int .i64 v2, .bool f2]) := by
      rcases hr2 with ⟨v2, _, _, rfl⟩ | ⟨_, rfl⟩
      · exact ⟨_, _, rfl⟩
      · exact ⟨_, _, rfl⟩
    obtain ⟨v2, f2, rfl⟩ := hr3
    clear hr2
    go_wp2_with fail
    refine bodyPost_ret (v := .tuple #[.agg #[.int .i64 0, .int .i64 0], .bool false]) (by simp [results, Tryd.results21, go_sem, c0, c1]) rfl ?_
    rw [hV.out]
    exact ⟨rfl, by first | exact (hbw3.setCell (Nat.le_refl _) _).setCell (Nat.le_refl _) _ | exact hbw3⟩

set_option maxHeartbeats 2000000 in
theorem readFault_ : ReadFaultC := by
  intro s w hL hs
  have hb0 := below_new__ w (.cells #[.int .i64 0, .int .i64 0, .int .i64 0] 45)
  have hp0 := FB3.new w 0 0 0 45
  have hL0 := hL.below hb0
  have qc := fun w => cutTwo s 32 w hs
  clear hL
  go_enter Tryd.func23, Tryd.ntmps23
  go_wp2_with fail
  refine (qc _).mono ?_
  rintro e w1 ⟨⟨a, b, f, rfl, hsa, hsb, hcut⟩, hb1⟩
  have hp1 := hp0.step hb1
  have hbw1 := bthen4 hb0 hb1
  have hL1 := hL0.below hb1
  have HC := Lib.hid hcut
  clear hb0 hp0 hb1 qc hcut hL0
  go_wp2_with fail
  refine (posRead_ a w1 hL1 hsa).mono ?_
  rintro e w2 ⟨rfl, hb2⟩
  have hp2 := hp1.step hb2
  have hbw2 := bthen4 hbw1 hb2
  have hL2 := hL1.below hb2
  have hcs := readV_cases a.data.toList
  clear hp1 hbw1 hL1 hb2
  obtain ⟨p1, p2, pf, hpv⟩ : ∃ p1 p2 pf, readV a.data.toList = (p1, p2, pf) := ⟨_, _, _, rfl⟩
  rw [hpv] at hcs
  have HP := Lib.hid (And.intro hpv hcs)
  simp only [hpv]
  clear hcs hpv
  go_wp2_with fail
  have hbn := below_new__ w2 (.cells #[.int .i64 p1, .int .i64 p2] 23)
  have hq3 := PB.new w2 p1 p2 23
  have hp3 := hp2.step hbn
  have hbw3 := bthen4 hbw2 hbn
  have hL3 := hL2.below hbn
  clear hp2 hbw2 hL2 hbn
  generalize w2.alloc (.cells #[.int .i64 p1, .int .i64 p2] 23) = W3 at *
  generalize w2.heap.size = g at *
  refine (posNumber b W3 hL3 hsb).mono ?_
  rintro e w4 ⟨hr2, hb4⟩
  have hq4 := hq3.step hb4
  have hp4 := hp3.step hb4
  have hbw4 := bthen4 hbw3 hb4
  have b0 := hq4.c0
  have b1 := hq4.c1
  have f0 := hp4.f0
  have f1 := hp4.f1
  have f2 := hp4.f2
  have c0 := hp4.c0
  have c1 := hp4.c1
  have c2 := hp4.c2
  clear hq3 hp3 hbw3 hL3 hb4 hq4 hp4
  rcases HP.out.2 with ⟨l, c, hl, hc, ht, he⟩ | ⟨hno, he⟩
  · injection he with e1 he
    injection he with e2 e3
    subst e1 e2 e3
    rcases hr2 with ⟨v3, hv3, ht3, rfl⟩ | ⟨hn2, rfl⟩
    · have hV := Lib.hid (readF_yes_ HC.out hl hc hv3 ht ht3)
      clear hl hc ht hv3 ht3 HP
      go_wp2_with fail
      refine bodyPost_ret (v := .tuple #[.agg #[.int .i64 p1, .int .i64 p2, .int .i64 v3], .bool true]) (by simp [results, Tryd.results23, go_sem, c0, c1, c2]) rfl ?_
      rw [hV.out]
      exact ⟨rfl, ((hbw4.setCell (Nat.le_refl _) _).setCell (Nat.le_refl _) _).setCell (Nat.le_refl _) _⟩
    · have hV := Lib.hid (readF_no_ HC.out (.inr hn2))
      clear hl hc ht hn2 HP
      go_wp2_with fail
      refine bodyPost_ret (v := .tuple #[.agg #[.int .i64 0, .int .i64 0, .int .i64 0], .bool false]) (by simp [results, Tryd.results23, go_sem, c0, c1, c2]) rfl ?_
      rw [hV.out]
      exact ⟨rfl, ((hbw4.setCell (Nat.le_refl _) _).setCell (Nat.le_refl _) _).setCell (Nat.le_refl _) _⟩
  · injection he with e1 he
    injection he with e2 e3
    subst e1 e2 e3
    have hV := Lib.hid (readF_no_ HC.out (.inl hno))
    have hr3 : ∃ (v2 : Int) (f2 : Bool), e = .returned (.tuple #[.int .i64 v2, .bool f2]) := by
      rcases hr2 with ⟨v2, _, _, rfl⟩ | ⟨_, rfl⟩
      · exact ⟨_, _, rfl⟩
      · exact ⟨_, _, rfl⟩
    obtain ⟨v2, g2, rfl⟩ := hr3
    clear hr2 hno HP
    go_wp2_with fail
    refine bodyPost_ret (v := .tuple #[.agg #[.int .i64 0, .int .i64 0, .int .i64 0], .bool false]) (by simp [results, Tryd.results23, go_sem, c0, c1, c2]) rfl ?_
    rw [hV.out]
    exact ⟨rfl, ((hbw4.setCell (Nat.le_refl _) _).setCell (Nat.le_refl _) _).setCell (Nat.le_refl _) _⟩
end

section
open Go.RowKit

/-- The first of none is none: its error tells whether there is one. -/
theorem firstV_flag (r : List (Int × Int × Int)) : (firstV r).2.2.2 = true ↔ (firstV r).2.2.1 ≠ 0 := by
  unfold firstV
  have h0 : ∀ (a : Int × Int × Int × Bool), (a.2.2.2 = true ↔ a.2.2.1 ≠ 0) → ((r.foldl stepF a).2.2.2 = true ↔ (r.foldl stepF a).2.2.1 ≠ 0) := by
    induction r with
    | nil => exact fun a h => h
    | cons f r ih =>
      intro a h
      rw [List.foldl_cons]
      apply ih
      unfold stepF
      split
      · rename_i h2
        simp [h2.1]
      · exact h
  exact h0 _ (by simp)
theorem firstV_64 (r : List (Int × Int × Int)) (h : ∀ f ∈ r, in64 f.1 ∧ in64 f.2.1 ∧ in64 f.2.2) : in64 (firstV r).1 ∧ in64 (firstV r).2.1 := by
  unfold firstV
  have h0 : ∀ (a : Int × Int × Int × Bool), (in64 a.1 ∧ in64 a.2.1) → in64 (r.foldl stepF a).1 ∧ in64 (r.foldl stepF a).2.1 := by
    induction r with
    | nil => exact fun a h => h
    | cons f r ih =>
      intro a ha
      rw [List.foldl_cons]
      apply ih (fun g hg => h g (List.mem_cons_of_mem _ hg))
      unfold stepF
      split
      · have := h f (by simp)
        exact ⟨this.1, this.2.1⟩
      · exact ha
  exact h0 _ ⟨by show in64 0; unfold in64; omega, by show in64 0; unfold in64; omega⟩
theorem FB3.far {W : World} {g : Nat} {l c n : Int} (h : FB3 W g l c n) {g' : Nat} (hne : g ≠ g') (x y z : Value) : FB3 (((W.setCell ⟨g', 0, none⟩ x).setCell ⟨g', 1, none⟩ y).setCell ⟨g', 2, none⟩ z) g l c n :=
  have q := far3 (x := x) (y := y) (z := z) (g' := g') ⟨h.c0, h.c1, h.c2⟩ hne
  ⟨q.1, q.2.1, q.2.2, by simpa using h.f0, by simpa using h.f1, by simpa using h.f2⟩
/-- What the loop holds: the answer's box, and that of the first so far. -/
structure FK (w : World) (v0 v1 v2 : Int) (W : World) : Prop where
  res : FB3 W w.heap.size 0 0 0
  cur : FB3 W (w.heap.size + 1) v0 v1 v2
  below : Below w.heap.size w W
theorem FK.step {w W W' : World} {v0 v1 v2 : Int} (h : FK w v0 v1 v2 W) (hb : Below W.heap.size W W') : FK w v0 v1 v2 W' := ⟨h.res.step hb, h.cur.step hb, bthen4 h.below hb⟩
theorem FK.all {w W : World} {v0 v1 v2 : Int} (h : FK w v0 v1 v2 W) (l c e : Int) : FK w l c e (((W.setCell ⟨w.heap.size + 1, 0, none⟩ (.int .i64 l)).setCell ⟨w.heap.size + 1, 1, none⟩ (.int .i64 c)).setCell ⟨w.heap.size + 1, 2, none⟩ (.int .i64 e)) :=
  ⟨h.res.far (by omega) _ _ _, h.cur.all l c e, ((h.below.setCell (Nat.le_succ _) _).setCell (Nat.le_succ _) _).setCell (Nat.le_succ _) _⟩

set_option maxHeartbeats 4000000 in
theorem posFirst_ : PosFirstC := by
  intro A n c0 r w hr hn hr64
  have hst0 : Hid (FK w 0 0 0 ((w.alloc (.cells #[.int .i64 0, .int .i64 0, .int .i64 0] 45)).alloc (.cells #[.int .i64 0, .int .i64 0, .int .i64 0] 45))) :=
    ⟨(FB3.new w 0 0 0 _).step (below_new_v _ _), by have := FB3.new (w.alloc (.cells #[.int .i64 0, .int .i64 0, .int .i64 0] 45)) 0 0 0 45; simpa using this, (below_new_v w _).alloc (by simp) _⟩
  have HR := Lib.hid hr64
  clear hr64
  go_enter Tryd.func19, Tryd.ntmps19
  go_wp2_with fail
  go_loopw [9] (fun v W => ∃ i : Nat, i ≤ n ∧ v = .int .i64 i ∧ Hid (FK w (firstV (r.take i)).1 (firstV (r.take i)).2.1 (firstV (r.take i)).2.2.1 W)) (fun v _ => n - (intOf v).toNat)
  case atStart => exact ⟨0, by omega, rfl, hst0⟩
  case round =>
    obtain ⟨i, hi, rfl, hst⟩ := hrel
    clear hst0
    have hfl := firstV_flag (r.take i)
    have hf64 := Lib.hid (firstV_64 (r.take i) (fun f hf => HR.out f (List.mem_of_mem_take hf)))
    by_cases hlt : i < n
    · have hrW : RowF wr A n r := (RowF.below2 hr hst.out.below)
      obtain ⟨ad, l, c, e, rfl, hri, h0, h1, h2⟩ := hrW.at_ hlt
      have h64 := Lib.hid (HR.out _ (List.mem_iff_getElem?.2 ⟨_, hri⟩))
      have hlt' : (i : Int) < n := by omega
      have hnext := Lib.hid (firstV_next r i (l, c, e) hri)
      have h1' : wr.cell? ((ad.add (i * 3)).add 1) = some (.int .i64 c) := by rw [add_of_add]; exact h1
      have h2' : wr.cell? ((ad.add (i * 3)).add 2) = some (.int .i64 e) := by rw [add_of_add]; exact h2
      have h1'' : wr.cell? ⟨(ad.add (i * 3)).block, (ad.add (i * 3)).off + 1, none⟩ = some (.int .i64 c) := h1'
      have h2'' : wr.cell? ⟨(ad.add (i * 3)).block, (ad.add (i * 3)).off + 2, none⟩ = some (.int .i64 e) := h2'
      clear hrW hri
      generalize firstV (r.take i) = v at *
      obtain ⟨v0, v1, v2, vb⟩ := v
      simp only at hfl
      have HF := Lib.hid hfl
      have hnew := FB3.new wr l c e 45
      have hst1 := Lib.hid (hst.out.step (below_new__ wr (.cells #[.int .i64 l, .int .i64 c, .int .i64 e] 45)))
      clear hfl
      simp only at hst1
      simp only at hf64
      clear hst hlt h1' h2'
      have c0 := hst1.out.cur.c0
      have c1 := hst1.out.cur.c1
      have c2 := hst1.out.cur.c2
      by_cases he : e = 0
      · have HS : Hid (stepF (v0, v1, v2, vb) (l, c, e) = (v0, v1, v2, vb)) := by show stepF (v0, v1, v2, vb) (l, c, e) = (v0, v1, v2, vb); unfold stepF; rw [if_neg]; simp [he]
        subst he
        go_wp2_with fail
        refine ⟨⟨i + 1, by omega, by go_num, ?_⟩, by simp [intOf]; omega⟩
        rw [hnext.out, HS.out]
        exact hst1.out
      · by_cases hv : v2 = 0
        · have hvb : vb = false := by cases vb with | false => rfl | true => exact absurd hv (HF.out.1 rfl)
          subst hvb hv
          have HS : Hid (stepF (v0, v1, 0, false) (l, c, e) = (l, c, e, true)) := by show stepF (v0, v1, 0, false) (l, c, e) = (l, c, e, true); unfold stepF; rw [if_pos]; simp [he]
          have f0 := hst1.out.cur.f0
          have f1 := hst1.out.cur.f1
          have f2 := hst1.out.cur.f2
          go_wp2_with fail
          refine ⟨⟨i + 1, by omega, by go_num, ?_⟩, by simp [intOf]; omega⟩
          rw [hnext.out, HS.out]
          exact hst1.out.all l c e
        · have hvb : vb = true := HF.out.2 hv
          subst hvb
          have hq := fun W => posCmp_ l c v0 v1 W h64.out.1 h64.out.2.1 hf64.out.1 hf64.out.2
          have n0 := hnew.c0
          have n1 := hnew.c1
          have n2 := hnew.c2
          go_wp2_with fail
          refine (hq _).mono ?_
          rintro e2 w2 ⟨rfl, hb2⟩
          have hst2 := Lib.hid (hst1.out.step hb2)
          have hnew2 := hnew.step hb2
          have m0 := hnew2.c0
          have m1 := hnew2.c1
          have m2 := hnew2.c2
          clear hnew n0 n1 n2 c0 c1 c2 hb2 hnew2 hq
          have hv2 : (v2 == 0) = false := by simp [hv]
          by_cases hlt2 : posCmp l c v0 v1 < 0
          · have HS : Hid (stepF (v0, v1, v2, true) (l, c, e) = (l, c, e, true)) := by show stepF (v0, v1, v2, true) (l, c, e) = (l, c, e, true); unfold stepF; rw [if_pos]; simp [he, hlt2]
            have f0 := hst2.out.cur.f0
            have f1 := hst2.out.cur.f1
            have f2 := hst2.out.cur.f2
            have c0 := hst2.out.cur.c0
            have c1 := hst2.out.cur.c1
            have c2 := hst2.out.cur.c2
            go_wp2_with fail
            refine ⟨⟨i + 1, by omega, by go_num, ?_⟩, by simp [intOf]; omega⟩
            rw [hnext.out, HS.out]
            exact hst2.out.all l c e
          · have HS : Hid (stepF (v0, v1, v2, true) (l, c, e) = (v0, v1, v2, true)) := by show stepF (v0, v1, v2, true) (l, c, e) = (v0, v1, v2, true); unfold stepF; rw [if_neg]; simp [hlt2]
            have hdl : decide (posCmp l c v0 v1 < 0) = false := by simp; omega
            go_wp2_with fail
            refine ⟨⟨i + 1, by omega, by go_num, ?_⟩, by simp [intOf]; omega⟩
            rw [hnext.out, HS.out]
            exact hst2.out
    · obtain rfl : i = n := by omega
      have hlt' : ¬ (i : Int) < i := by omega
      have htk : r.take i = r := List.take_of_length_le (by have := hr.1; omega)
      rw [htk] at hst hfl
      have p0 := hst.out.res
      have p1 := hst.out.cur
      have hbw := hst.out.below
      clear htk hst hf64 hlt
      obtain ⟨v0, v1, v2, vb, hv⟩ : ∃ v0 v1 v2 vb, firstV r = (v0, v1, v2, vb) := ⟨_, _, _, _, rfl⟩
      rw [hv] at hfl p1
      simp only at hfl p1
      have HVV := Lib.hid hv
      clear hv
      have hdec : (v2 != 0) = vb := by
        cases vb with
        | true => simp; exact hfl.1 rfl
        | false =>
          simp only [bne_eq_false_iff_eq]
          exact Decidable.byContradiction fun h => by have := hfl.2 h; cases this
      have c0 := p0.c0
      have c1 := p0.c1
      have c2 := p0.c2
      have f0 := p0.f0
      have f1 := p0.f1
      have f2 := p0.f2
      have d0 := p1.c0
      have d1 := p1.c1
      have d2 := p1.c2
      have hfin := p0.all v0 v1 v2
      have HD := Lib.hid hdec
      clear hfl hdec
      go_wp2_with fail
      have hd := Below.refl wr.heap.size wr
      have q1 := p1.step hd.drew
      have s0 := And.intro q1.c0 (And.intro q1.c1 q1.c2)
      have q2 := q1.far (g' := w.heap.size) (by omega) (.int .i64 v0) (.int .i64 v1) (.int .i64 v2)
      have s1 := And.intro q2.c0 (And.intro q2.c1 q2.c2)
      clear hd p1 q1 q2
      go_region_held3 (fun w' => w'.cell? ⟨w.heap.size + 1, 0, none⟩ = some (.int .i64 v0) ∧ w'.cell? ⟨w.heap.size + 1, 1, none⟩ = some (.int .i64 v1) ∧ w'.cell? ⟨w.heap.size + 1, 2, none⟩ = some (.int .i64 v2)) (first | exact s0 | exact s1)
        (fail)
      all_goals
        (go_wp2_with fail
         refine bodyPost_ret (v := .tuple #[.agg #[.int .i64 v0, .int .i64 v1, .int .i64 v2], .bool vb]) (by simp [results, Tryd.results19, go_sem, c0, c1, c2, HD.out]) rfl ?_
         rw [HVV.out]
         exact ⟨rfl, (((hbw.setCell (Nat.le_refl _) _).setCell (Nat.le_refl _) _).setCell (Nat.le_refl _) _).drew⟩)
end
end Go.Proofs.YtijliimiojjjdaaDoor
