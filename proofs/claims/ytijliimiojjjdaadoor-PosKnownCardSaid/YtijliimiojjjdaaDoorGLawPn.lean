/- The law PosKnown. -/
import Derived.Test.YtijliimiojjjdaaDoorGPosC
import Derived.Test.YtijliimiojjjdaaDoorGPosF
import Derived.Test.YtijliimiojjjdaaDoorGRefW
namespace Go.Proofs.YtijliimiojjjdaaDoor
section
open Go.RowKit

theorem anyPlaces (s : ByteArray) (z l c : Int) (w : World) (hL : Laid w) (hs : s.size ≤ 1000) (hz : in64 z) (hl : in64 l) (hc : in64 c) :
    Calls Tryd.prog 3 #[.string s, .int .i64 z, .agg #[.int .i64 l, .int .i64 c]] w fun e w' => e = .returned (.bool true) ∧ Below w.heap.size w w' := by
  by_cases h : s.size ≤ 400
  · exact places_any posOf_ posPlace_ posLines_ posText_ faultText_ s z l c w hL.t h hz hl hc
  · exact places_long posOf_ posPlace_ posText_ faultText_ s z l c w hL.t (by omega) (by unfold maxLen; omega)
theorem anyBackP (s : ByteArray) (l c n : Int) (w : World) (hL : Laid w) (hs : s.size ≤ 1000) (hl : in64 l) (hc : in64 c) (hn : in64 n) :
    Calls Tryd.prog 5 #[.string s, .agg #[.int .i64 l, .int .i64 c, .int .i64 n]] w fun e w' => e = .returned (.bool true) ∧ Below w.heap.size w w' := by
  by_cases h : s.size ≤ 200
  · exact back_any posOf_ posPlace_ posLines_ posCmp_ posText_ faultText_ posRead_ readFault_ s l c n w hL h hl hc hn
  · exact back_long posOf_ posPlace_ posText_ faultText_ s l c n w hL (by omega) (by unfold maxLen; omega)
theorem anyTells (a1 a2 b1 b2 : Int) (A : Option Addr) (n c0 : Nat) (r : List (Int × Int × Int)) (s : ByteArray) (w : World) (hL : Laid w) (hr : RowF w A n r) (hr64 : ∀ f ∈ r, in64 f.1 ∧ in64 f.2.1 ∧ in64 f.2.2)
    (hn : n ≤ 40) (hs : s.size ≤ 1000) (ha1 : in64 a1) (ha2 : in64 a2) (hb1 : in64 b1) (hb2 : in64 b2) :
    Calls Tryd.prog 4 #[.agg #[.int .i64 a1, .int .i64 a2], .agg #[.int .i64 b1, .int .i64 b2], .slice A n c0, .string s] w fun e w' => e = .returned (.bool true) ∧ Below w.heap.size w w' := by
  by_cases h : s.size ≤ 60
  · exact tells_any posFirst_ posOf_ posPlace_ posCmp_ posText_ faultText_ posRead_ readFault_ a1 a2 b1 b2 A n c0 r s w hL hr hr64 hn h ha1 ha2 hb1 hb2
  · exact tells_long posOf_ posPlace_ posText_ faultText_ a1 a2 b1 b2 A n c0 s w hL (by omega) (by unfold maxLen; omega) (by unfold maxLen; omega)

/-- A table of short texts; one of whole numbers. -/
def TSx (W : World) (g n : Nat) : Prop := ∀ i, i < n → ∃ s : ByteArray, W.cell? ⟨g, i, none⟩ = some (.string s) ∧ s.size ≤ 1000
theorem TSx.step {W W' : World} {g n : Nat} (h : TSx W g n) (hb : Below W.heap.size W W') : TSx W' g n := fun i hi => by
  obtain ⟨s, h1, h2⟩ := h i hi
  exact ⟨s, (hb.cell (p := ⟨g, i, none⟩) (World.block_lt_of_cell? W ⟨g, i, none⟩ h1)).trans h1, h2⟩
def TIx (W : World) (g n : Nat) : Prop := ∀ i, i < n → ∃ z : Int, W.cell? ⟨g, i, none⟩ = some (.int .i64 z) ∧ in64 z
theorem TIx.step {W W' : World} {g n : Nat} (h : TIx W g n) (hb : Below W.heap.size W W') : TIx W' g n := fun i hi => by
  obtain ⟨s, h1, h2⟩ := h i hi
  exact ⟨s, (hb.cell (p := ⟨g, i, none⟩) (World.block_lt_of_cell? W ⟨g, i, none⟩ h1)).trans h1, h2⟩
theorem TSx.new (W : World) (l : List ByteArray) (T : TypeId) (hl : ∀ s ∈ l, s.size ≤ 1000) : TSx (W.alloc (.cells (l.map Value.string).toArray T)) W.heap.size l.length := fun i hi => by
  refine ⟨l[i], ?_, hl _ (List.getElem_mem hi)⟩
  rw [cell_of_row _ _ i (l.map Value.string).toArray T (0, 0) (heap_alloc_new W _)]
  simp [hi]
theorem TIx.new (W : World) (l : List Int) (T : TypeId) (hl : ∀ s ∈ l, in64 s) : TIx (W.alloc (.cells (l.map (Value.int .i64)).toArray T)) W.heap.size l.length := fun i hi => by
  refine ⟨l[i], ?_, hl _ (List.getElem_mem hi)⟩
  rw [cell_of_row _ _ i (l.map (Value.int .i64)).toArray T (0, 0) (heap_alloc_new W _)]
  simp [hi]
/-- A row of faults just made; its beginning. -/
theorem RowF.new (W : World) (l : List (Int × Int × Int)) (T : TypeId) : RowF (W.alloc (.cells (fcells l).toArray T)) (some ⟨W.heap.size, 0, none⟩) l.length l :=
  ⟨rfl, by rw [fcells_len], fun _ => ⟨_, rfl, by simp, fun j u hu => by
    rw [show (⟨W.heap.size, 0, none⟩ : Addr).add j = ⟨W.heap.size, j, none⟩ by cases j <;> simp [Addr.add], cell_of_row _ _ j (fcells l).toArray T (0, 0) (heap_alloc_new W _)]
    simpa using hu⟩⟩
theorem fcells_take (l : List (Int × Int × Int)) (m : Nat) : fcells (l.take m) = (fcells l).take (m * 3) := by
  induction l generalizing m with
  | nil => simp [fcells]
  | cons p l ih =>
    obtain ⟨a, b, c⟩ := p
    cases m with
    | zero => simp [fcells]
    | succ m =>
      rw [show (m + 1) * 3 = m * 3 + 1 + 1 + 1 by omega]
      simp [fcells, ih]
theorem RowF.take {W : World} {A : Option Addr} {n : Nat} {r : List (Int × Int × Int)} (h : RowF W A n r) {m : Nat} (hm : m ≤ n) : RowF W A m (r.take m) := by
  refine ⟨by rw [List.length_take]; have := h.1; omega, by rw [fcells_len, List.length_take]; have := h.1; omega, fun h0 => ?_⟩
  obtain ⟨ad, e, hb, hc⟩ := h.2.2 (by omega)
  refine ⟨ad, e, hb, fun j u hu => hc j u ?_⟩
  rw [fcells_take] at hu
  have hj := (List.getElem?_eq_some_iff.1 hu).1
  rw [List.length_take] at hj
  rwa [List.getElem?_take_of_lt (by omega)] at hu
/-- Three cells of a row: its fourth fault. -/
def D3 (W : World) (g : Nat) (a b c : Int) : Prop := W.cell? ⟨g, 9, none⟩ = some (.int .i64 a) ∧ W.cell? ⟨g, 10, none⟩ = some (.int .i64 b) ∧ W.cell? ⟨g, 11, none⟩ = some (.int .i64 c)
theorem D3.step {W W' : World} {g : Nat} {a b c : Int} (h : D3 W g a b c) (hb : Below W.heap.size W W') : D3 W' g a b c := ⟨cstep1 hb h.1, cstep1 hb h.2.1, cstep1 hb h.2.2⟩
/-- What stands all the while. -/
structure KN (w W : World) : Prop where
  laid : Laid W
  below : Below w.heap.size w W
theorem KN.step {w W W' : World} (h : KN w W) (hb : Below W.heap.size W W') : KN w W' := ⟨h.laid.below hb, bthen4 h.below hb⟩
theorem KN.start {w : World} (h : Laid w) : KN w w := ⟨h, Below.refl _ _⟩
/-- And the boxes and the row of one round. -/
structure KS (w : World) (g1 gA gB gl : Nat) (za zb : Int) (W : World) : Prop where
  k : KN w W
  t : TIx W g1 6
  a : PB W gA za zb
  b : PB W gB zb 7
  r : RowF W (some ⟨gl, 0, none⟩) 5 [(za, zb, 0), (za, zb, 80), (zb, 7, 81), (zb, 7, za), (za, zb, 82)]
  d : D3 W gl zb 7 za
theorem KS.step {w : World} {g1 gA gB gl : Nat} {za zb : Int} {W W' : World} (h : KS w g1 gA gB gl za zb W) (hb : Below W.heap.size W W') : KS w g1 gA gB gl za zb W' :=
  ⟨h.k.step hb, h.t.step hb, h.a.step hb, h.b.step hb, h.r.below2 hb, h.d.step hb⟩
theorem KS.cells {w : World} {g1 gA gB gl : Nat} {za zb : Int} {W : World} (h : KS w g1 gA gB gl za zb W) : W.cell? ⟨gA, 0, none⟩ = some (.int .i64 za) ∧ W.cell? ⟨gA, 1, none⟩ = some (.int .i64 zb) ∧ W.cell? ⟨gB, 0, none⟩ = some (.int .i64 zb) ∧ W.cell? ⟨gB, 1, none⟩ = some (.int .i64 7) ∧
    W.cell? ⟨gl, 9, none⟩ = some (.int .i64 zb) ∧ W.cell? ⟨gl, 10, none⟩ = some (.int .i64 7) ∧ W.cell? ⟨gl, 11, none⟩ = some (.int .i64 za) := ⟨h.a.c0, h.a.c1, h.b.c0, h.b.c1, h.d⟩

def knT : List ByteArray := [⟨#[]⟩, ⟨#[10]⟩, ⟨#[97, 98, 10, 99]⟩, ⟨#[10, 10]⟩, ⟨#[97, 13, 10, 98, 0, 10]⟩, ⟨#[111, 110, 101, 32, 108, 105, 110, 101]⟩, ⟨#[10, 120, 10, 10, 121, 121, 10]⟩]
def knV : List Int := [0, 1, -1, 7, 9223372036854775807, -9223372036854775808]
def knO : List ByteArray := [⟨#[]⟩, ⟨#[58]⟩, ⟨#[49, 58]⟩, ⟨#[58, 49]⟩, ⟨#[49, 58, 50]⟩, ⟨#[48, 49, 58, 50]⟩, ⟨#[49, 58, 50, 58, 51]⟩, ⟨#[49, 32, 50]⟩, ⟨#[49, 58, 50, 32]⟩, ⟨#[49, 58, 50, 32, 51]⟩, ⟨#[49, 58, 50, 32, 32, 51]⟩, ⟨#[32, 49, 58, 50, 32, 51]⟩, ⟨#[49, 58, 50, 32, 120]⟩,
  ⟨#[57, 50, 50, 51, 51, 55, 50, 48, 51, 54, 56, 53, 52, 55, 55, 53, 56, 48, 56, 58, 49]⟩, ⟨#[45, 49, 58, 45, 57, 50, 50, 51, 51, 55, 50, 48, 51, 54, 56, 53, 52, 55, 55, 53, 56, 48, 56, 32, 45, 55]⟩, ⟨#[49, 58, 50, 32, 51, 32, 52]⟩]

set_option maxHeartbeats 4000000 in
set_option maxRecDepth 100000 in
theorem known_pos (w : World) (hL : Laid w) : Calls Tryd.prog 6 #[] w fun e w' => e = .returned (.bool true) ∧ Below w.heap.size w w' := by
  have hq1 := Lib.hid anyPlaces
  have hq2 := Lib.hid anyBackP
  have hq3 := Lib.hid anyTells
  have ht0 := TSx.new w knT 9 (by decide)
  have hk0 := Lib.hid (KN.step (KN.start hL) (below_new__ w (.cells (knT.map Value.string).toArray 9)))
  clear hL
  go_enter Tryd.func6, Tryd.ntmps6
  go_wp2_with fail
  go_loopw [2] (fun v W => ∃ i : Nat, i ≤ 7 ∧ v = .int .i64 i ∧ Hid (KN w W ∧ TSx W w.heap.size 7)) (fun v _ => 7 - (intOf v).toNat)
  case atStart => exact ⟨0, by omega, rfl, hk0.out, ht0⟩
  case round =>
    obtain ⟨i, hi, rfl, hst⟩ := hrel
    clear ht0 hk0
    by_cases hlt : i < 7
    · have hlt' : (i : Int) < 7 := by omega
      go_wp2_with fail
      go_loopw [3] (fun v W => ∃ z : Int, -1 ≤ z ∧ z ≤ 12 ∧ v = .int .i64 z ∧ Hid (KN w W ∧ TSx W w.heap.size 7)) (fun v _ => (12 - intOf v).toNat)
      case atStart => exact ⟨-1, by omega, by omega, rfl, hst⟩
      case round =>
        obtain ⟨z, hz0, hz1, rfl, hst⟩ := hrel
        by_cases hzl : z < 12
        · go_wp2_with fail
          go_loopw [4] (fun v W => ∃ k : Int, -1 ≤ k ∧ k ≤ 6 ∧ v = .int .i64 k ∧ Hid (KN w W ∧ TSx W w.heap.size 7)) (fun v _ => (6 - intOf v).toNat)
          case atStart => exact ⟨-1, by omega, by omega, rfl, hst⟩
          case round =>
            obtain ⟨k, hk0, hk1, rfl, hst⟩ := hrel
            by_cases hkl : k < 6
            · obtain ⟨s, c0, hs⟩ := hst.out.2 i hlt
              go_wp2_with fail
              refine (hq1.out s z k z wr hst.out.1.laid hs (by unfold in64; omega) (by unfold in64; omega) (by unfold in64; omega)).mono ?_
              rintro e w1 ⟨rfl, hb1⟩
              have hst1 : Hid (KN w w1 ∧ TSx w1 w.heap.size 7) := ⟨hst.out.1.step hb1, hst.out.2.step hb1⟩
              have c0' := (hb1.cell (p := ⟨w.heap.size, i, none⟩) (World.block_lt_of_cell? _ _ c0)).trans c0
              clear hst hb1 c0
              go_wp2_with fail
              refine (hq2.out s z k k w1 hst1.out.1.laid hs (by unfold in64; omega) (by unfold in64; omega) (by unfold in64; omega)).mono ?_
              rintro e w2 ⟨rfl, hb2⟩
              have hst2 : Hid (KN w w2 ∧ TSx w2 w.heap.size 7) := ⟨hst1.out.1.step hb2, hst1.out.2.step hb2⟩
              clear hst1 hb2 c0'
              go_wp2_with fail
              exact ⟨⟨k + 1, by omega, by omega, by go_num, hst2⟩, by simp [intOf]; omega⟩
            · obtain rfl : k = 6 := by omega
              go_wp2_with fail
              exact ⟨⟨z + 1, by omega, by omega, by go_num, hst⟩, by simp [intOf]; omega⟩
        · obtain rfl : z = 12 := by omega
          go_wp2_with fail
          exact ⟨⟨i + 1, by omega, by go_num, hst⟩, by simp [intOf]; omega⟩
    · have hi7 : (i : Int) = 7 := by omega
      rw [hi7]
      clear hi7 hi hlt
      have hk1 := Lib.hid hst.out.1
      clear hst
      have ht1 := TIx.new wr knV 3 (by unfold in64; decide)
      have hk2 := Lib.hid (hk1.out.step (below_new__ wr (.cells (knV.map (Value.int .i64)).toArray 3)))
      obtain ⟨g1, hg1⟩ : ∃ g1, g1 = wr.heap.size := ⟨_, rfl⟩
      rw [← hg1] at ht1
      go_wp2_with fail
      rw [← hg1]
      clear hg1
      go_loopw [6] (fun v W => ∃ i : Nat, i ≤ 6 ∧ v = .int .i64 i ∧ Hid (KN w W ∧ TIx W g1 6)) (fun v _ => 6 - (intOf v).toNat)
      case atStart => exact ⟨0, by omega, rfl, hk2.out, ht1⟩
      case round =>
        obtain ⟨i, hi, rfl, hst⟩ := hrel
        clear ht1 hk1 hk2
        by_cases hlt : i < 6
        · have hlt' : (i : Int) < 6 := by omega
          go_wp2_with fail
          go_loopw [7] (fun v W => ∃ k : Nat, k ≤ 6 ∧ v = .int .i64 k ∧ Hid (KN w W ∧ TIx W g1 6)) (fun v _ => 6 - (intOf v).toNat)
          case atStart => exact ⟨0, by omega, rfl, hst⟩
          case round =>
            obtain ⟨k, hk, rfl, hst⟩ := hrel
            by_cases hkl : k < 6
            · have hkl' : (k : Int) < 6 := by omega
              go_wp2_with fail
              obtain ⟨za, ca, ha⟩ := hst.out.2 i hlt
              obtain ⟨zb, cb, hb⟩ := hst.out.2 k hkl
              have n1 := World.new_ne wr _ ca
              have n2 := World.new_ne wr _ cb
              have HA := Lib.hid ha
              have HB := Lib.hid hb
              clear ha hb
              go_region_held3 (fun w' => w'.cell? ⟨g1, i, none⟩ = some (.int .i64 za) ∧ w'.cell? ⟨g1, k, none⟩ = some (.int .i64 zb)) (first | go_keep)
                (fail)
              · have pa := ((PB.new wr za zb 23).step (below_new__ _ (.cells #[.int .i64 zb, .int .i64 7] 23))).step (Below.refl _ _).drew
                have pb := (PB.new (wr.alloc (.cells #[.int .i64 za, .int .i64 zb] 23)) zb 7 23).step (Below.refl _ _).drew
                rw [show (wr.alloc (.cells #[.int .i64 za, .int .i64 zb] 23)).heap.size = wr.heap.size + 1 by simp] at pb
                have hbV := (bthen4 (below_new__ wr (.cells #[.int .i64 za, .int .i64 zb] 23)) (below_new__ _ (.cells #[.int .i64 zb, .int .i64 7] 23))).drew
                have hst1 : Hid (KN w ((wr.alloc (.cells #[.int .i64 za, .int .i64 zb] 23)).alloc (.cells #[.int .i64 zb, .int .i64 7] 23)).drew ∧ TIx ((wr.alloc (.cells #[.int .i64 za, .int .i64 zb] 23)).alloc (.cells #[.int .i64 zb, .int .i64 7] 23)).drew g1 6) := ⟨hst.out.1.step hbV, hst.out.2.step hbV⟩
                have ca := (hbV.cell (p := ⟨g1, i, none⟩) (World.block_lt_of_cell? _ _ ca)).trans ca
                have cb := (hbV.cell (p := ⟨g1, k, none⟩) (World.block_lt_of_cell? _ _ cb)).trans cb
                clear hst n1 n2 hbV
                generalize ((wr.alloc (.cells #[.int .i64 za, .int .i64 zb] 23)).alloc (.cells #[.int .i64 zb, .int .i64 7] 23)).drew = V at *
                generalize wr.heap.size + 1 = gB at *
                generalize wr.heap.size = gA at *
                go_wp2_with fail
                have q0 := pa.step (Below.refl _ _).drew
                have q1 := pb.step (Below.refl _ _).drew
                have s0 := And.intro (show V.drew.cell? ⟨g1, i, none⟩ = some (.int .i64 za) from ca) (And.intro q0.c0 (And.intro q0.c1 (And.intro q1.c0 q1.c1)))
                have hnb := below_new__ V (.cells (fcells [(za, zb, 0), (za, zb, 80), (zb, 7, 81), (zb, 7, za), (za, zb, 82)]).toArray 45)
                have hnb2 := hnb.drew
                have q2 := pa.step hnb2
                have q3 := pb.step hnb2
                have ca2 := (hnb2.cell (p := ⟨g1, i, none⟩) (World.block_lt_of_cell? _ _ ca)).trans ca
                have s1 := And.intro ca2 (And.intro q2.c0 (And.intro q2.c1 (And.intro q3.c0 q3.c1)))
                go_region_held3 (fun w' => w'.cell? ⟨g1, i, none⟩ = some (.int .i64 za) ∧ w'.cell? ⟨gA, 0, none⟩ = some (.int .i64 za) ∧ w'.cell? ⟨gA, 1, none⟩ = some (.int .i64 zb) ∧ w'.cell? ⟨gB, 0, none⟩ = some (.int .i64 zb) ∧ w'.cell? ⟨gB, 1, none⟩ = some (.int .i64 7)) (first | exact s0 | exact s1)
                  (fail)
                have hr : RowF (V.alloc (.cells #[.int .i64 za, .int .i64 zb, .int .i64 0, .int .i64 za, .int .i64 zb, .int .i64 80, .int .i64 zb, .int .i64 7, .int .i64 81, .int .i64 zb, .int .i64 7, .int .i64 za, .int .i64 za, .int .i64 zb, .int .i64 82] 45)).drew (some ⟨V.heap.size, 0, none⟩) 5 [(za, zb, 0), (za, zb, 80), (zb, 7, 81), (zb, 7, za), (za, zb, 82)] := (RowF.new V [(za, zb, 0), (za, zb, 80), (zb, 7, 81), (zb, 7, za), (za, zb, 82)] 45).below2 (Below.refl _ _).drew
                have hst2 : Hid (KN w (V.alloc (.cells #[.int .i64 za, .int .i64 zb, .int .i64 0, .int .i64 za, .int .i64 zb, .int .i64 80, .int .i64 zb, .int .i64 7, .int .i64 81, .int .i64 zb, .int .i64 7, .int .i64 za, .int .i64 za, .int .i64 zb, .int .i64 82] 45)).drew ∧ TIx (V.alloc (.cells #[.int .i64 za, .int .i64 zb, .int .i64 0, .int .i64 za, .int .i64 zb, .int .i64 80, .int .i64 zb, .int .i64 7, .int .i64 81, .int .i64 zb, .int .i64 7, .int .i64 za, .int .i64 za, .int .i64 zb, .int .i64 82] 45)).drew g1 6) := ⟨hst1.out.1.step hnb2, hst1.out.2.step hnb2⟩
                have q2 : PB (V.alloc (.cells #[.int .i64 za, .int .i64 zb, .int .i64 0, .int .i64 za, .int .i64 zb, .int .i64 80, .int .i64 zb, .int .i64 7, .int .i64 81, .int .i64 zb, .int .i64 7, .int .i64 za, .int .i64 za, .int .i64 zb, .int .i64 82] 45)).drew gA za zb := q2
                have q3 : PB (V.alloc (.cells #[.int .i64 za, .int .i64 zb, .int .i64 0, .int .i64 za, .int .i64 zb, .int .i64 80, .int .i64 zb, .int .i64 7, .int .i64 81, .int .i64 zb, .int .i64 7, .int .i64 za, .int .i64 za, .int .i64 zb, .int .i64 82] 45)).drew gB zb 7 := q3
                have hr64 : Hid (∀ f ∈ [(za, zb, 0), (za, zb, 80), (zb, 7, 81), (zb, 7, za), (za, zb, 82)], in64 f.1 ∧ in64 f.2.1 ∧ in64 f.2.2) := by
                  have a := HA.out
                  have b := HB.out
                  have h7 : in64 7 := by unfold in64; omega
                  intro f hf
                  simp only [List.mem_cons, List.not_mem_nil, or_false] at hf
                  rcases hf with rfl | rfl | rfl | rfl | rfl
                  · exact ⟨a, b, by show in64 0; unfold in64; omega⟩
                  · exact ⟨a, b, by show in64 80; unfold in64; omega⟩
                  · exact ⟨b, h7, by show in64 81; unfold in64; omega⟩
                  · exact ⟨b, h7, a⟩
                  · exact ⟨a, b, by show in64 82; unfold in64; omega⟩
                obtain ⟨ad, l3, c3, e3, had, hl3, d0, d1, d2⟩ := hr.at_ (i := 3) (by decide)
                have hl3 : some (zb, (7 : Int), za) = some (l3, c3, e3) := hl3
                injection hl3 with hl3
                injection hl3 with e1 e2
                injection e2 with e2 e3'
                injection had with had
                subst e1 e2 e3' had
                rw [show (⟨V.heap.size, 0, none⟩ : Addr).add (3 * 3) = ⟨V.heap.size, 9, none⟩ by simp [Addr.add]] at d0
                rw [show (⟨V.heap.size, 0, none⟩ : Addr).add (3 * 3 + 1) = ⟨V.heap.size, 10, none⟩ by simp [Addr.add]] at d1
                rw [show (⟨V.heap.size, 0, none⟩ : Addr).add (3 * 3 + 2) = ⟨V.heap.size, 11, none⟩ by simp [Addr.add]] at d2
                have hRow := Lib.hid hr
                clear hst1 hnb hnb2 q0 q1 s0 s1 pa pb ca cb ca2 hr
                go_wp2_with fail
                generalize (V.alloc (.cells #[.int .i64 za, .int .i64 zb, .int .i64 0, .int .i64 za, .int .i64 zb, .int .i64 80, .int .i64 zb, .int .i64 7, .int .i64 81, .int .i64 zb, .int .i64 7, .int .i64 za, .int .i64 za, .int .i64 zb, .int .i64 82] 45)).drew = W2 at *
                generalize V.heap.size = gl at *
                have hj := Below.refl W2.heap.size W2
                have hst3 : Hid (KS w g1 gA gB gl za zb W2.drew) := ⟨hst2.out.1.step hj.drew, hst2.out.2.step hj.drew, q2.step hj.drew, q3.step hj.drew, hRow.out.below2 hj.drew, ⟨d0, d1, d2⟩⟩
                have s0 := hst3.out.cells
                obtain ⟨m, hm⟩ : ∃ m, m = (i + k) % 6 := ⟨_, rfl⟩
                have u0 : IntKind.i64.wrap ((i : Int) + k) = (i : Int) + k := IntWalk.i64_in _ (by omega)
                have h0 : (0 : Int) ≤ m := by omega
                have u1 : ((i : Int) + k).tmod 6 = (m : Int) := by rw [Int.tmod_eq_emod_of_nonneg (by omega), hm]; omega
                have hm5 : m ≤ 5 := by omega
                have hm0 : (m : Int) ≤ 5 := by omega
                have u2 : IntKind.i64.wrap (m : Int) = m := IntWalk.i64_in _ (by omega)
                clear hst2 hRow q2 q3 d0 d1 d2 hj hm
                have h7 : Hid (in64 7) := by show in64 7; unfold in64; omega
                have r1 := fun W hL => posText_ za zb W hL HA.out HB.out
                have r2 := fun W hL hr => hq3.out za zb zb 7 (some ⟨gl, 0, none⟩) m 5 ([(za, zb, 0), (za, zb, 80), (zb, 7, 81), (zb, 7, za), (za, zb, 82)].take m) (txt (posText za zb)) W hL hr (fun f hf => hr64.out f (List.mem_of_mem_take hf)) (by omega) (by rw [txt_size]; have := posText_len HA.out HB.out; omega) HA.out HB.out HB.out h7.out
                have r3 := fun W hL => faultText_ zb 7 za W hL HB.out h7.out HA.out
                have r4 := fun W hL hr => hq3.out zb 7 za zb (some ⟨gl, 0, none⟩) 5 5 [(za, zb, 0), (za, zb, 80), (zb, 7, 81), (zb, 7, za), (za, zb, 82)] (txt (faultText zb 7 za)) W hL hr hr64.out (by omega) (by rw [txt_size]; have := faultText_len HB.out h7.out HA.out; omega) HB.out h7.out HA.out HB.out
                have r5 := fun W hL => hq2.out ⟨#[]⟩ zb 7 za W hL (by decide) HB.out h7.out HA.out
                generalize txt (posText za zb) = T1 at *
                generalize txt (faultText zb 7 za) = T2 at *
                go_region_held3 (fun w' => w'.cell? ⟨gA, 0, none⟩ = some (.int .i64 za) ∧ w'.cell? ⟨gA, 1, none⟩ = some (.int .i64 zb) ∧ w'.cell? ⟨gB, 0, none⟩ = some (.int .i64 zb) ∧ w'.cell? ⟨gB, 1, none⟩ = some (.int .i64 7) ∧
                    w'.cell? ⟨gl, 9, none⟩ = some (.int .i64 zb) ∧ w'.cell? ⟨gl, 10, none⟩ = some (.int .i64 7) ∧ w'.cell? ⟨gl, 11, none⟩ = some (.int .i64 za)) (first | exact s0 | exact hst4.out.cells | exact hst5.out.cells | exact hst6.out.cells | exact hst7.out.cells | exact hst8.out.cells)
                  (first
                    | (go_at_call 27
                       with_reducible refine (r1 W2.drew hst3.out.k.laid.t).mono ?_
                       rintro e w4 ⟨rfl, hb4⟩
                       have hst4 := Lib.hid (hst3.out.step hb4))
                    | (go_at_call 4
                       with_reducible refine (r2 w4 hst4.out.k.laid (hst4.out.r.take hm5)).mono ?_
                       rintro e w5 ⟨rfl, hb5⟩
                       have hst5 := Lib.hid (hst4.out.step hb5))
                    | (go_at_call 17
                       with_reducible refine (r3 w5 hst5.out.k.laid.t).mono ?_
                       rintro e w6 ⟨rfl, hb6⟩
                       have hst6 := Lib.hid (hst5.out.step hb6))
                    | (go_at_call 4
                       with_reducible refine (r4 w6 hst6.out.k.laid hst6.out.r).mono ?_
                       rintro e w7 ⟨rfl, hb7⟩
                       have hst7 := Lib.hid (hst6.out.step hb7))
                    | (go_at_call 5
                       with_reducible refine (r5 w7 hst7.out.k.laid).mono ?_
                       rintro e w8 ⟨rfl, hb8⟩
                       have hst8 := Lib.hid (hst7.out.step hb8)))
                all_goals
                  (have hst9 : Hid (KN w w8 ∧ TIx w8 g1 6) := ⟨hst8.out.k, hst8.out.t⟩
                   go_wp2_with fail
                   exact ⟨⟨k + 1, by omega, by go_num, hst9⟩, by simp [intOf]; omega⟩)
              · have pa := (PB.new (wr.alloc (.cells #[.int .i64 zb, .int .i64 7] 23)) za zb 23).step (Below.refl _ _).drew
                have pb := ((PB.new wr zb 7 23).step (below_new__ _ (.cells #[.int .i64 za, .int .i64 zb] 23))).step (Below.refl _ _).drew
                rw [show (wr.alloc (.cells #[.int .i64 zb, .int .i64 7] 23)).heap.size = wr.heap.size + 1 by simp] at pa
                have hbV := (bthen4 (below_new__ wr (.cells #[.int .i64 zb, .int .i64 7] 23)) (below_new__ _ (.cells #[.int .i64 za, .int .i64 zb] 23))).drew
                have hst1 : Hid (KN w ((wr.alloc (.cells #[.int .i64 zb, .int .i64 7] 23)).alloc (.cells #[.int .i64 za, .int .i64 zb] 23)).drew ∧ TIx ((wr.alloc (.cells #[.int .i64 zb, .int .i64 7] 23)).alloc (.cells #[.int .i64 za, .int .i64 zb] 23)).drew g1 6) := ⟨hst.out.1.step hbV, hst.out.2.step hbV⟩
                have ca := (hbV.cell (p := ⟨g1, i, none⟩) (World.block_lt_of_cell? _ _ ca)).trans ca
                have cb := (hbV.cell (p := ⟨g1, k, none⟩) (World.block_lt_of_cell? _ _ cb)).trans cb
                clear hst n1 n2 hbV
                generalize ((wr.alloc (.cells #[.int .i64 zb, .int .i64 7] 23)).alloc (.cells #[.int .i64 za, .int .i64 zb] 23)).drew = V at *
                generalize wr.heap.size + 1 = gA at *
                generalize wr.heap.size = gB at *
                go_wp2_with fail
                have q0 := pa.step (Below.refl _ _).drew
                have q1 := pb.step (Below.refl _ _).drew
                have s0 := And.intro (show V.drew.cell? ⟨g1, i, none⟩ = some (.int .i64 za) from ca) (And.intro q0.c0 (And.intro q0.c1 (And.intro q1.c0 q1.c1)))
                have hnb := below_new__ V (.cells (fcells [(za, zb, 0), (za, zb, 80), (zb, 7, 81), (zb, 7, za), (za, zb, 82)]).toArray 45)
                have hnb2 := hnb.drew
                have q2 := pa.step hnb2
                have q3 := pb.step hnb2
                have ca2 := (hnb2.cell (p := ⟨g1, i, none⟩) (World.block_lt_of_cell? _ _ ca)).trans ca
                have s1 := And.intro ca2 (And.intro q2.c0 (And.intro q2.c1 (And.intro q3.c0 q3.c1)))
                go_region_held3 (fun w' => w'.cell? ⟨g1, i, none⟩ = some (.int .i64 za) ∧ w'.cell? ⟨gA, 0, none⟩ = some (.int .i64 za) ∧ w'.cell? ⟨gA, 1, none⟩ = some (.int .i64 zb) ∧ w'.cell? ⟨gB, 0, none⟩ = some (.int .i64 zb) ∧ w'.cell? ⟨gB, 1, none⟩ = some (.int .i64 7)) (first | exact s0 | exact s1)
                  (fail)
                have hr : RowF (V.alloc (.cells #[.int .i64 za, .int .i64 zb, .int .i64 0, .int .i64 za, .int .i64 zb, .int .i64 80, .int .i64 zb, .int .i64 7, .int .i64 81, .int .i64 zb, .int .i64 7, .int .i64 za, .int .i64 za, .int .i64 zb, .int .i64 82] 45)).drew (some ⟨V.heap.size, 0, none⟩) 5 [(za, zb, 0), (za, zb, 80), (zb, 7, 81), (zb, 7, za), (za, zb, 82)] := (RowF.new V [(za, zb, 0), (za, zb, 80), (zb, 7, 81), (zb, 7, za), (za, zb, 82)] 45).below2 (Below.refl _ _).drew
                have hst2 : Hid (KN w (V.alloc (.cells #[.int .i64 za, .int .i64 zb, .int .i64 0, .int .i64 za, .int .i64 zb, .int .i64 80, .int .i64 zb, .int .i64 7, .int .i64 81, .int .i64 zb, .int .i64 7, .int .i64 za, .int .i64 za, .int .i64 zb, .int .i64 82] 45)).drew ∧ TIx (V.alloc (.cells #[.int .i64 za, .int .i64 zb, .int .i64 0, .int .i64 za, .int .i64 zb, .int .i64 80, .int .i64 zb, .int .i64 7, .int .i64 81, .int .i64 zb, .int .i64 7, .int .i64 za, .int .i64 za, .int .i64 zb, .int .i64 82] 45)).drew g1 6) := ⟨hst1.out.1.step hnb2, hst1.out.2.step hnb2⟩
                have q2 : PB (V.alloc (.cells #[.int .i64 za, .int .i64 zb, .int .i64 0, .int .i64 za, .int .i64 zb, .int .i64 80, .int .i64 zb, .int .i64 7, .int .i64 81, .int .i64 zb, .int .i64 7, .int .i64 za, .int .i64 za, .int .i64 zb, .int .i64 82] 45)).drew gA za zb := q2
                have q3 : PB (V.alloc (.cells #[.int .i64 za, .int .i64 zb, .int .i64 0, .int .i64 za, .int .i64 zb, .int .i64 80, .int .i64 zb, .int .i64 7, .int .i64 81, .int .i64 zb, .int .i64 7, .int .i64 za, .int .i64 za, .int .i64 zb, .int .i64 82] 45)).drew gB zb 7 := q3
                have hr64 : Hid (∀ f ∈ [(za, zb, 0), (za, zb, 80), (zb, 7, 81), (zb, 7, za), (za, zb, 82)], in64 f.1 ∧ in64 f.2.1 ∧ in64 f.2.2) := by
                  have a := HA.out
                  have b := HB.out
                  have h7 : in64 7 := by unfold in64; omega
                  intro f hf
                  simp only [List.mem_cons, List.not_mem_nil, or_false] at hf
                  rcases hf with rfl | rfl | rfl | rfl | rfl
                  · exact ⟨a, b, by show in64 0; unfold in64; omega⟩
                  · exact ⟨a, b, by show in64 80; unfold in64; omega⟩
                  · exact ⟨b, h7, by show in64 81; unfold in64; omega⟩
                  · exact ⟨b, h7, a⟩
                  · exact ⟨a, b, by show in64 82; unfold in64; omega⟩
                obtain ⟨ad, l3, c3, e3, had, hl3, d0, d1, d2⟩ := hr.at_ (i := 3) (by decide)
                have hl3 : some (zb, (7 : Int), za) = some (l3, c3, e3) := hl3
                injection hl3 with hl3
                injection hl3 with e1 e2
                injection e2 with e2 e3'
                injection had with had
                subst e1 e2 e3' had
                rw [show (⟨V.heap.size, 0, none⟩ : Addr).add (3 * 3) = ⟨V.heap.size, 9, none⟩ by simp [Addr.add]] at d0
                rw [show (⟨V.heap.size, 0, none⟩ : Addr).add (3 * 3 + 1) = ⟨V.heap.size, 10, none⟩ by simp [Addr.add]] at d1
                rw [show (⟨V.heap.size, 0, none⟩ : Addr).add (3 * 3 + 2) = ⟨V.heap.size, 11, none⟩ by simp [Addr.add]] at d2
                have hRow := Lib.hid hr
                clear hst1 hnb hnb2 q0 q1 s0 s1 pa pb ca cb ca2 hr
                go_wp2_with fail
                generalize (V.alloc (.cells #[.int .i64 za, .int .i64 zb, .int .i64 0, .int .i64 za, .int .i64 zb, .int .i64 80, .int .i64 zb, .int .i64 7, .int .i64 81, .int .i64 zb, .int .i64 7, .int .i64 za, .int .i64 za, .int .i64 zb, .int .i64 82] 45)).drew = W2 at *
                generalize V.heap.size = gl at *
                have hj := Below.refl W2.heap.size W2
                have hst3 : Hid (KS w g1 gA gB gl za zb W2.drew) := ⟨hst2.out.1.step hj.drew, hst2.out.2.step hj.drew, q2.step hj.drew, q3.step hj.drew, hRow.out.below2 hj.drew, ⟨d0, d1, d2⟩⟩
                have s0 := hst3.out.cells
                obtain ⟨m, hm⟩ : ∃ m, m = (i + k) % 6 := ⟨_, rfl⟩
                have u0 : IntKind.i64.wrap ((i : Int) + k) = (i : Int) + k := IntWalk.i64_in _ (by omega)
                have h0 : (0 : Int) ≤ m := by omega
                have u1 : ((i : Int) + k).tmod 6 = (m : Int) := by rw [Int.tmod_eq_emod_of_nonneg (by omega), hm]; omega
                have hm5 : m ≤ 5 := by omega
                have hm0 : (m : Int) ≤ 5 := by omega
                have u2 : IntKind.i64.wrap (m : Int) = m := IntWalk.i64_in _ (by omega)
                clear hst2 hRow q2 q3 d0 d1 d2 hj hm
                have h7 : Hid (in64 7) := by show in64 7; unfold in64; omega
                have r1 := fun W hL => posText_ za zb W hL HA.out HB.out
                have r2 := fun W hL hr => hq3.out za zb zb 7 (some ⟨gl, 0, none⟩) m 5 ([(za, zb, 0), (za, zb, 80), (zb, 7, 81), (zb, 7, za), (za, zb, 82)].take m) (txt (posText za zb)) W hL hr (fun f hf => hr64.out f (List.mem_of_mem_take hf)) (by omega) (by rw [txt_size]; have := posText_len HA.out HB.out; omega) HA.out HB.out HB.out h7.out
                have r3 := fun W hL => faultText_ zb 7 za W hL HB.out h7.out HA.out
                have r4 := fun W hL hr => hq3.out zb 7 za zb (some ⟨gl, 0, none⟩) 5 5 [(za, zb, 0), (za, zb, 80), (zb, 7, 81), (zb, 7, za), (za, zb, 82)] (txt (faultText zb 7 za)) W hL hr hr64.out (by omega) (by rw [txt_size]; have := faultText_len HB.out h7.out HA.out; omega) HB.out h7.out HA.out HB.out
                have r5 := fun W hL => hq2.out ⟨#[]⟩ zb 7 za W hL (by decide) HB.out h7.out HA.out
                generalize txt (posText za zb) = T1 at *
                generalize txt (faultText zb 7 za) = T2 at *
                go_region_held3 (fun w' => w'.cell? ⟨gA, 0, none⟩ = some (.int .i64 za) ∧ w'.cell? ⟨gA, 1, none⟩ = some (.int .i64 zb) ∧ w'.cell? ⟨gB, 0, none⟩ = some (.int .i64 zb) ∧ w'.cell? ⟨gB, 1, none⟩ = some (.int .i64 7) ∧
                    w'.cell? ⟨gl, 9, none⟩ = some (.int .i64 zb) ∧ w'.cell? ⟨gl, 10, none⟩ = some (.int .i64 7) ∧ w'.cell? ⟨gl, 11, none⟩ = some (.int .i64 za)) (first | exact s0 | exact hst4.out.cells | exact hst5.out.cells | exact hst6.out.cells | exact hst7.out.cells | exact hst8.out.cells)
                  (first
                    | (go_at_call 27
                       with_reducible refine (r1 W2.drew hst3.out.k.laid.t).mono ?_
                       rintro e w4 ⟨rfl, hb4⟩
                       have hst4 := Lib.hid (hst3.out.step hb4))
                    | (go_at_call 4
                       with_reducible refine (r2 w4 hst4.out.k.laid (hst4.out.r.take hm5)).mono ?_
                       rintro e w5 ⟨rfl, hb5⟩
                       have hst5 := Lib.hid (hst4.out.step hb5))
                    | (go_at_call 17
                       with_reducible refine (r3 w5 hst5.out.k.laid.t).mono ?_
                       rintro e w6 ⟨rfl, hb6⟩
                       have hst6 := Lib.hid (hst5.out.step hb6))
                    | (go_at_call 4
                       with_reducible refine (r4 w6 hst6.out.k.laid hst6.out.r).mono ?_
                       rintro e w7 ⟨rfl, hb7⟩
                       have hst7 := Lib.hid (hst6.out.step hb7))
                    | (go_at_call 5
                       with_reducible refine (r5 w7 hst7.out.k.laid).mono ?_
                       rintro e w8 ⟨rfl, hb8⟩
                       have hst8 := Lib.hid (hst7.out.step hb8)))
                all_goals
                  (have hst9 : Hid (KN w w8 ∧ TIx w8 g1 6) := ⟨hst8.out.k, hst8.out.t⟩
                   go_wp2_with fail
                   exact ⟨⟨k + 1, by omega, by go_num, hst9⟩, by simp [intOf]; omega⟩)
            · obtain rfl : k = 6 := by omega
              go_wp2_with fail
              exact ⟨⟨i + 1, by omega, by go_num, hst⟩, by simp [intOf]; omega⟩
        · have hi6 : (i : Int) = 6 := by omega
          rw [hi6]
          clear hi6 hi hlt
          have hk1 := Lib.hid hst.out.1
          clear hst
          have ht1 := TSx.new wr knO 9 (by decide)
          have hk2 := Lib.hid (hk1.out.step (below_new__ wr (.cells (knO.map Value.string).toArray 9)))
          obtain ⟨g2, hg2⟩ : ∃ g2, g2 = wr.heap.size := ⟨_, rfl⟩
          rw [← hg2] at ht1
          go_wp2_with fail
          rw [← hg2]
          clear hg2
          go_loopw [12] (fun v W => ∃ i : Nat, i ≤ 16 ∧ v = .int .i64 i ∧ Hid (KN w W ∧ TSx W g2 16)) (fun v _ => 16 - (intOf v).toNat)
          case atStart => exact ⟨0, by omega, rfl, hk2.out, ht1⟩
          case round =>
            obtain ⟨i, hi, rfl, hst⟩ := hrel
            clear ht1 hk1 hk2
            by_cases hlt : i < 16
            · have hlt' : (i : Int) < 16 := by omega
              obtain ⟨s, c0, hs⟩ := hst.out.2 i hlt
              go_wp2_with fail
              refine (hq3.out 0 0 (i : Int) 0 none 0 0 [] s wr hst.out.1.laid ⟨rfl, Reads.none_⟩ (fun f hf => nomatch hf) (by omega) hs (by unfold in64; omega) (by unfold in64; omega) (by unfold in64; omega) (by unfold in64; omega)).mono ?_
              rintro e w1 ⟨rfl, hb1⟩
              have hst1 : Hid (KN w w1 ∧ TSx w1 g2 16) := ⟨hst.out.1.step hb1, hst.out.2.step hb1⟩
              clear hst hb1 c0
              go_wp2_with fail
              exact ⟨⟨i + 1, by omega, by go_num, hst1⟩, by simp [intOf]; omega⟩
            · obtain rfl : i = 16 := by omega
              go_wp2_with fail
              refine (works_pos posOf_ posPlace_ posText_ faultText_ wr hst.out.1.laid.t).mono ?_
              rintro e w1 ⟨rfl, hb1⟩
              have hbf := bthen4 hst.out.1.below hb1
              clear hst hb1
              go_wp2_with fail
              go_ret
              exact ⟨rfl, hbf⟩
end
end Go.Proofs.YtijliimiojjjdaaDoor
