/- What is asked of layer 4's functions, as the laws' walks take it (no walk of them here): their contracts' statements. The texts of positions and faults: they tell one position, one fault, alone. The laws of layer 4: what they share: ref, fault, works. The law PosPlaces, over the statements of what is asked of layer 4's functions. The law PosBack, over the statements of what is asked of layer 4's functions. -/
import Derived.Test.YtijliimiojjjdaaDoorGRefS
import Derived.Test.YtijliimiojjjdaaDoorGDeciF
import Derived.Lib.ItoaLen
import Derived.Deep.RegionHeld3
namespace Go.Proofs.YtijliimiojjjdaaDoor
section
open Go.RowKit

/-- A whole number of 64 digits. -/
def in64 (z : Int) : Prop := -9223372036854775808 ≤ z ∧ z ≤ 9223372036854775807

/-- What Of answers. -/
def ofV (L : List UInt8) (z : Int) : Int × Int × Bool := if 0 ≤ z ∧ z ≤ L.length then (((spot L z.toNat).1 : Nat), ((spot L z.toNat).2 : Nat), true) else (0, 0, false)
theorem ofV_yes {L : List UInt8} {k : Nat} (h : k ≤ L.length) : ofV L k = ((((spot L k).1 : Nat) : Int), (((spot L k).2 : Nat) : Int), true) := by
  unfold ofV
  rw [if_pos ⟨by omega, by omega⟩, Int.toNat_natCast]
theorem ofV_no {L : List UInt8} {z : Int} (h : ¬ (0 ≤ z ∧ z ≤ L.length)) : ofV L z = (0, 0, false) := by unfold ofV; rw [if_neg h]
/-- What Place answers. -/
def plV (L : List UInt8) (l c : Int) : Int × Bool :=
  match (List.range (L.length + 1)).find? (fun i => decide (((spot L i).1 : Int) = l ∧ ((spot L i).2 : Int) = c)) with
  | some k => ((k : Nat), true)
  | none => (0, false)
theorem plV_yes {L : List UInt8} {l c : Int} {k : Nat} (h : k ≤ L.length) (hs : standsAt L l c k) : plV L l c = ((k : Int), true) := by
  unfold plV
  cases hf : (List.range (L.length + 1)).find? (fun i => decide (((spot L i).1 : Int) = l ∧ ((spot L i).2 : Int) = c)) with
  | none =>
    have := List.find?_eq_none.1 hf k (by simp; omega)
    simp at this
    exact absurd hs.2 (this hs.1)
  | some j =>
    have h1 := List.find?_some hf
    simp at h1
    have : j = k := standsAt_uniq (L := L) (l := l) (c := c) h1 hs
    rw [this]
theorem plV_no {L : List UInt8} {l c : Int} (h : ∀ k, k ≤ L.length → ¬ standsAt L l c k) : plV L l c = (0, false) := by
  unfold plV
  have hf : (List.range (L.length + 1)).find? (fun i => decide (((spot L i).1 : Int) = l ∧ ((spot L i).2 : Int) = c)) = none := by
    rw [List.find?_eq_none]
    intro k hk
    simp at hk
    have := h k (by omega)
    unfold standsAt at this
    simpa using this
  rw [hf]
/-- A position's text; a fault's. -/
def posText (l c : Int) : List UInt8 := Lib.itoa l ++ 58 :: Lib.itoa c
def faultText (l c e : Int) : List UInt8 := posText l c ++ 32 :: Lib.itoa e
def txt (l : List UInt8) : ByteArray := ⟨l.toArray⟩

/-- The statements. -/
def PosOfC : Prop := ∀ (s : ByteArray) (z : Int) (w : World), s.size ≤ 1000 → in64 z → Calls Tryd.prog 8 #[.string s, .int .i64 z] w fun e w' =>
  e = .returned (.tuple #[.agg #[.int .i64 (ofV s.data.toList z).1, .int .i64 (ofV s.data.toList z).2.1], .bool (ofV s.data.toList z).2.2]) ∧ Below w.heap.size w w'
def PosPlaceC : Prop := ∀ (s : ByteArray) (l c : Int) (w : World), s.size ≤ 1000 → in64 l → in64 c → Calls Tryd.prog 10 #[.string s, .agg #[.int .i64 l, .int .i64 c]] w fun e w' =>
  e = .returned (.tuple #[.int .i64 (plV s.data.toList l c).1, .bool (plV s.data.toList l c).2]) ∧ Below w.heap.size w w'
def PosLinesC : Prop := ∀ (s : ByteArray) (w : World), s.size ≤ 1000 → Calls Tryd.prog 13 #[.string s] w fun e w' => ∃ v, e = .returned v ∧ GrowS w v (rows s.data.toList) w'
def PosCmpC : Prop := ∀ (l c l' c' : Int) (w : World), in64 l → in64 c → in64 l' → in64 c' → Calls Tryd.prog 25 #[.agg #[.int .i64 l, .int .i64 c], .agg #[.int .i64 l', .int .i64 c']] w fun e w' => e = .returned (.int .i64 (posCmp l c l' c')) ∧ Below w.heap.size w w'
def PosTextC : Prop := ∀ (l c : Int) (w : World), LaidT w → in64 l → in64 c → Calls Tryd.prog 27 #[.agg #[.int .i64 l, .int .i64 c]] w fun e w' => e = .returned (.string (txt (posText l c))) ∧ Below w.heap.size w w'
def FaultTextC : Prop := ∀ (l c n : Int) (w : World), LaidT w → in64 l → in64 c → in64 n → Calls Tryd.prog 17 #[.agg #[.int .i64 l, .int .i64 c, .int .i64 n]] w fun e w' => e = .returned (.string (txt (faultText l c n))) ∧ Below w.heap.size w w'

/-- The reference's, in the same words. -/
theorem refPosOf (s : ByteArray) (z : Int) (w : World) (hs : s.size ≤ 1000) : Calls Tryd.prog 9 #[.string s, .int .i64 z] w fun e w' =>
    e = .returned (.tuple #[.agg #[.int .i64 (ofV s.data.toList z).1, .int .i64 (ofV s.data.toList z).2.1], .bool (ofV s.data.toList z).2.2]) ∧ Below w.heap.size w w' := by
  have hl := size_len_ s
  by_cases h : 0 ≤ z ∧ z ≤ s.data.toList.length
  · obtain ⟨k, rfl⟩ := Int.eq_ofNat_of_zero_le h.1
    rw [ofV_yes (by omega)]
    exact refPosOf_yes s k (by omega) (by omega) w
  · rw [ofV_no h]
    exact refPosOf_no s z (by omega) w
theorem refPlaceV (s : ByteArray) (l c : Int) (w : World) (hs : s.size ≤ 1000) : Calls Tryd.prog 11 #[.string s, .agg #[.int .i64 l, .int .i64 c]] w fun e w' =>
    e = .returned (.tuple #[.int .i64 (plV s.data.toList l c).1, .bool (plV s.data.toList l c).2]) ∧ Below w.heap.size w w' := by
  have hl := size_len_ s
  refine (refPlace s l c (by omega) w).mono ?_
  rintro e w' ⟨h | ⟨h, he⟩, hb⟩
  · obtain ⟨k, h1, h2, h3⟩ := h
    rw [plV_yes (by omega) h2]
    exact ⟨h3, hb⟩
  · rw [plV_no (fun k hk => h k (by omega))]
    exact ⟨he, hb⟩
end

section
open Go.RowKit

theorem itoa_byte (m : Int) : ∀ c ∈ Lib.itoa m, c ≠ 58 ∧ c ≠ 32 := by
  have hd : ∀ N, ∀ c ∈ Lib.decDigits N, c ≠ 58 ∧ c ≠ 32 := by
    intro N c hc
    have := (dec_canon N).1 c hc
    unfold isDig at this
    constructor
    · rintro rfl; revert this; decide
    · rintro rfl; revert this; decide
  intro c hc
  unfold Lib.itoa at hc
  split at hc
  · rw [List.mem_cons] at hc
    rcases hc with rfl | hc
    · decide
    · exact hd _ c hc
  · exact hd _ c hc
theorem itoa_inj {m n : Int} (hm : in64 m) (hn : in64 n) (h : Lib.itoa m = Lib.itoa n) : m = n := by
  have h1 := int_dec m hm.1 hm.2
  have h2 := int_dec n hn.1 hn.2
  rw [h] at h1
  rw [h1] at h2
  injection h2
/-- A text is cut at its first byte of a kind in one way. -/
theorem cut_uniq {x : UInt8} : ∀ {a a' b b' : List UInt8}, (∀ c ∈ a, c ≠ x) → (∀ c ∈ a', c ≠ x) → a ++ x :: b = a' ++ x :: b' → a = a' ∧ b = b'
  | [], [], _, _, _, _, h => by injection h with _ h; exact ⟨rfl, h⟩
  | [], c :: a', _, _, _, h2, h => by injection h with h _; exact absurd h.symm (h2 c (by simp))
  | c :: a, [], _, _, h1, _, h => by injection h with h _; exact absurd h (h1 c (by simp))
  | c :: a, c' :: a', b, b', h1, h2, h => by
    injection h with h3 h4
    obtain ⟨e1, e2⟩ := cut_uniq (a := a) (a' := a') (fun d hd => h1 d (by simp [hd])) (fun d hd => h2 d (by simp [hd])) h4
    exact ⟨by rw [h3, e1], e2⟩
theorem posText_inj {l c l' c' : Int} (h1 : in64 l) (h2 : in64 c) (h3 : in64 l') (h4 : in64 c') (h : posText l c = posText l' c') : l = l' ∧ c = c' := by
  obtain ⟨e1, e2⟩ := cut_uniq (fun d hd => (itoa_byte l d hd).1) (fun d hd => (itoa_byte l' d hd).1) h
  exact ⟨itoa_inj h1 h3 e1, itoa_inj h2 h4 e2⟩
theorem posText_byte (l c : Int) : ∀ d ∈ posText l c, d ≠ 32 := by
  intro d hd
  unfold posText at hd
  rw [List.mem_append, List.mem_cons] at hd
  rcases hd with hd | rfl | hd
  · exact (itoa_byte l d hd).2
  · decide
  · exact (itoa_byte c d hd).2
theorem faultText_inj {l c n l' c' n' : Int} (h1 : in64 l) (h2 : in64 c) (h0 : in64 n) (h3 : in64 l') (h4 : in64 c') (h5 : in64 n') (h : faultText l c n = faultText l' c' n') : l = l' ∧ c = c' ∧ n = n' := by
  obtain ⟨e1, e2⟩ := cut_uniq (posText_byte l c) (posText_byte l' c') h
  obtain ⟨e3, e4⟩ := posText_inj h1 h2 h3 h4 e1
  exact ⟨e3, e4, itoa_inj h0 h5 e2⟩

open Classical in
/-- What Read answers; what ReadFault answers. -/
noncomputable def readV (L : List UInt8) : Int × Int × Bool :=
  if h : ∃ p : Int × Int, in64 p.1 ∧ in64 p.2 ∧ L = posText p.1 p.2 then ((Classical.choose h).1, (Classical.choose h).2, true) else (0, 0, false)
open Classical in
noncomputable def readF (L : List UInt8) : Int × Int × Int × Bool :=
  if h : ∃ p : Int × Int × Int, in64 p.1 ∧ in64 p.2.1 ∧ in64 p.2.2 ∧ L = faultText p.1 p.2.1 p.2.2 then ((Classical.choose h).1, (Classical.choose h).2.1, (Classical.choose h).2.2, true) else (0, 0, 0, false)
theorem readV_yes {l c : Int} (h1 : in64 l) (h2 : in64 c) : readV (posText l c) = (l, c, true) := by
  have h : ∃ p : Int × Int, in64 p.1 ∧ in64 p.2 ∧ posText l c = posText p.1 p.2 := ⟨(l, c), h1, h2, rfl⟩
  unfold readV
  rw [dif_pos h]
  obtain ⟨a, b, e⟩ := Classical.choose_spec h
  obtain ⟨e1, e2⟩ := posText_inj h1 h2 a b e
  rw [← e1, ← e2]
theorem readV_no {L : List UInt8} (h : ∀ l c, in64 l → in64 c → L ≠ posText l c) : readV L = (0, 0, false) := by
  unfold readV
  rw [dif_neg]
  rintro ⟨p, h1, h2, h3⟩
  exact h _ _ h1 h2 h3
theorem readF_yes {l c n : Int} (h1 : in64 l) (h2 : in64 c) (h3 : in64 n) : readF (faultText l c n) = (l, c, n, true) := by
  have h : ∃ p : Int × Int × Int, in64 p.1 ∧ in64 p.2.1 ∧ in64 p.2.2 ∧ faultText l c n = faultText p.1 p.2.1 p.2.2 := ⟨(l, c, n), h1, h2, h3, rfl⟩
  unfold readF
  rw [dif_pos h]
  obtain ⟨a, b, d, e⟩ := Classical.choose_spec h
  obtain ⟨e1, e2, e3⟩ := faultText_inj h1 h2 h3 a b d e
  rw [← e1, ← e2, ← e3]
theorem readF_no {L : List UInt8} (h : ∀ l c n, in64 l → in64 c → in64 n → L ≠ faultText l c n) : readF L = (0, 0, 0, false) := by
  unfold readF
  rw [dif_neg]
  rintro ⟨p, h1, h2, h3, h4⟩
  exact h _ _ _ h1 h2 h3 h4

def PosReadC : Prop := ∀ (s : ByteArray) (w : World), Laid w → s.size ≤ 1000 → Calls Tryd.prog 21 #[.string s] w fun e w' =>
  e = .returned (.tuple #[.agg #[.int .i64 (readV s.data.toList).1, .int .i64 (readV s.data.toList).2.1], .bool (readV s.data.toList).2.2]) ∧ Below w.heap.size w w'
def ReadFaultC : Prop := ∀ (s : ByteArray) (w : World), Laid w → s.size ≤ 1000 → Calls Tryd.prog 23 #[.string s] w fun e w' =>
  e = .returned (.tuple #[.agg #[.int .i64 (readF s.data.toList).1, .int .i64 (readF s.data.toList).2.1, .int .i64 (readF s.data.toList).2.2.1], .bool (readF s.data.toList).2.2.2]) ∧ Below w.heap.size w w'
theorem txt_list (l : List UInt8) : (txt l).data.toList = l := by simp [txt]
theorem posText_len {l c : Int} (h1 : in64 l) (h2 : in64 c) : (posText l c).length ≤ 43 := by
  have a := Lib.itoa_length_le l h1.1 h1.2
  have b := Lib.itoa_length_le c h2.1 h2.2
  simp [posText]; omega
theorem faultText_len {l c n : Int} (h1 : in64 l) (h2 : in64 c) (h3 : in64 n) : (faultText l c n).length ≤ 65 := by
  have a := posText_len h1 h2
  have b := Lib.itoa_length_le n h3.1 h3.2
  simp [faultText]; omega
theorem txt_size (l : List UInt8) : (txt l).size = l.length := by simp [txt, ByteArray.size]
end

section
open Go.RowKit

set_option maxHeartbeats 400000 in
theorem lawRef (l c : Int) (w : World) : Calls Tryd.prog 12 #[.agg #[.int .i64 l, .int .i64 c]] w fun e w' => e = .returned (.agg #[.int .i64 l, .int .i64 c]) ∧ Below w.heap.size w w' := by
  go_enter Tryd.func12, Tryd.ntmps12
  go_wp2_with fail
  refine bodyPost_ret (v := .agg #[.int .i64 l, .int .i64 c]) (by simp [results, Tryd.results12, go_sem]) rfl ?_
  exact ⟨rfl, by first | exact (((Below.refl _ _).alloc (Nat.le_refl _) _).alloc (by simp) _) | exact ((((Below.refl _ _).alloc (Nat.le_refl _) _).alloc (by simp) _).setCell (by simp) _).setCell (by simp) _⟩

/-- The text of the examples: a, b, a byte 10, c. -/
def exT : ByteArray := ⟨#[97, 98, 10, 99]⟩
def exA (j : Nat) : Nat := [0, 2, 3, 4, 5].getD j 0
def exW (j : Nat) : ByteArray := [⟨#[49, 58, 49]⟩, ⟨#[49, 58, 51]⟩, ⟨#[50, 58, 49]⟩, ⟨#[50, 58, 50]⟩, ⟨#[48, 58, 48]⟩].getD j ⟨#[]⟩
theorem itoaD (d : Nat) (h : d < 10) : Lib.itoa (d : Int) = [UInt8.ofNat (48 + d)] := by
  unfold Lib.itoa
  rw [if_neg (by omega), Int.toNat_natCast, Lib.decDigits, dif_pos h]
theorem itoa80 : Lib.itoa 80 = [56, 48] := by
  unfold Lib.itoa
  rw [if_neg (by omega), show (80 : Int).toNat = 80 from rfl, Lib.decDigits, dif_neg (by omega), show 80 / 10 = 8 from rfl, Lib.decDigits, dif_pos (by omega)]
  decide
theorem exP0 : posText 1 1 = [49, 58, 49] := by
  have h1 := itoaD 1 (by omega)
  have h2 := itoaD 1 (by omega)
  unfold posText
  rw [show (1 : Int) = ((1 : Nat) : Int) from rfl, h1]
  decide
theorem exP1 : posText 1 3 = [49, 58, 51] := by
  have h1 := itoaD 1 (by omega)
  have h2 := itoaD 3 (by omega)
  unfold posText
  rw [show (1 : Int) = ((1 : Nat) : Int) from rfl, h1]
  rw [show (3 : Int) = ((3 : Nat) : Int) from rfl, h2]
  decide
theorem exP2 : posText 2 1 = [50, 58, 49] := by
  have h1 := itoaD 2 (by omega)
  have h2 := itoaD 1 (by omega)
  unfold posText
  rw [show (2 : Int) = ((2 : Nat) : Int) from rfl, h1]
  rw [show (1 : Int) = ((1 : Nat) : Int) from rfl, h2]
  decide
theorem exP3 : posText 2 2 = [50, 58, 50] := by
  have h1 := itoaD 2 (by omega)
  have h2 := itoaD 2 (by omega)
  unfold posText
  rw [show (2 : Int) = ((2 : Nat) : Int) from rfl, h1]
  decide
theorem exP4 : posText 0 0 = [48, 58, 48] := by
  have h1 := itoaD 0 (by omega)
  have h2 := itoaD 0 (by omega)
  unfold posText
  rw [show (0 : Int) = ((0 : Nat) : Int) from rfl, h1]
  decide
theorem exF : faultText 3 7 80 = [51, 58, 55, 32, 56, 48] := by
  have h1 := itoaD 3 (by omega)
  have h2 := itoaD 7 (by omega)
  unfold faultText posText
  rw [show (3 : Int) = ((3 : Nat) : Int) from rfl, h1, show (7 : Int) = ((7 : Nat) : Int) from rfl, h2, itoa80]
  decide
theorem exOf (j : Nat) (h : j < 5) : ∃ l c : Int, in64 l ∧ in64 c ∧ ofV exT.data.toList (exA j) = (l, c, decide (j < 4)) ∧ txt (posText l c) = exW j := by
  have : j = 0 ∨ j = 1 ∨ j = 2 ∨ j = 3 ∨ j = 4 := by omega
  rcases this with rfl | rfl | rfl | rfl | rfl
  · exact ⟨1, 1, by unfold in64; omega, by unfold in64; omega, by decide, by rw [exP0]; rfl⟩
  · exact ⟨1, 3, by unfold in64; omega, by unfold in64; omega, by decide, by rw [exP1]; rfl⟩
  · exact ⟨2, 1, by unfold in64; omega, by unfold in64; omega, by decide, by rw [exP2]; rfl⟩
  · exact ⟨2, 2, by unfold in64; omega, by unfold in64; omega, by decide, by rw [exP3]; rfl⟩
  · exact ⟨0, 0, by unfold in64; omega, by unfold in64; omega, by decide, by rw [exP4]; rfl⟩
theorem exA_in (j : Nat) (h : j < 5) : in64 (exA j : Nat) := by
  have : j = 0 ∨ j = 1 ∨ j = 2 ∨ j = 3 ∨ j = 4 := by omega
  unfold in64
  rcases this with rfl | rfl | rfl | rfl | rfl <;> decide
theorem exPl1 : plV exT.data.toList 1 4 = (0, false) := by decide
theorem exPl2 : plV exT.data.toList 2 2 = (4, true) := by decide
theorem exFt : txt (faultText 3 7 80) = ⟨#[51, 58, 55, 32, 56, 48]⟩ := by rw [exF]; rfl

theorem below_new__ (W : World) (o : Obj) : Below W.heap.size W (W.alloc o) := (Below.refl _ _).alloc (Nat.le_refl _) o
/-- The tables of the examples, in memory. -/
structure TB (ga gw : Nat) (W : World) : Prop where
  at_ : ∀ j, j < 5 → W.cell? ⟨ga, j, none⟩ = some (.int .i64 (exA j : Nat))
  want : ∀ j, j < 5 → W.cell? ⟨gw, j, none⟩ = some (.string (exW j))
theorem TB.step {ga gw : Nat} {W W' : World} (h : TB ga gw W) (hb : Below W.heap.size W W') : TB ga gw W' :=
  ⟨fun j hj => (hb.cell (p := ⟨ga, j, none⟩) (World.block_lt_of_cell? W ⟨ga, j, none⟩ (h.at_ j hj))).trans (h.at_ j hj), fun j hj => (hb.cell (p := ⟨gw, j, none⟩) (World.block_lt_of_cell? W ⟨gw, j, none⟩ (h.want j hj))).trans (h.want j hj)⟩
/-- The call's world so far. -/
structure WK (w : World) (ga gw : Nat) (W : World) : Prop where
  tb : TB ga gw W
  laid : LaidT W
  below : Below w.heap.size w W
theorem WK.step {w : World} {ga gw : Nat} {W W' : World} (h : WK w ga gw W) (hb : Below W.heap.size W W') : WK w ga gw W' := ⟨h.tb.step hb, h.laid.below hb, h.below.trans (hb.mono h.below.size)⟩
theorem tb_new (w : World) (T U : TypeId) : TB w.heap.size (w.heap.size + 1) ((w.alloc (.cells #[.int .i64 0, .int .i64 2, .int .i64 3, .int .i64 4, .int .i64 5] T)).alloc (.cells #[.string ⟨#[49, 58, 49]⟩, .string ⟨#[49, 58, 51]⟩, .string ⟨#[50, 58, 49]⟩, .string ⟨#[50, 58, 50]⟩, .string ⟨#[48, 58, 48]⟩] U)) := by
  constructor
  · intro j hj
    have : j = 0 ∨ j = 1 ∨ j = 2 ∨ j = 3 ∨ j = 4 := by omega
    rcases this with rfl | rfl | rfl | rfl | rfl <;> simp [go_sem, exA]
  · intro j hj
    have : j = 0 ∨ j = 1 ∨ j = 2 ∨ j = 3 ∨ j = 4 := by omega
    rcases this with rfl | rfl | rfl | rfl | rfl <;> simp [go_sem, exW]

set_option maxHeartbeats 4000000 in
set_option maxRecDepth 100000 in
theorem works_pos (hOf : PosOfC) (hPl : PosPlaceC) (hTx : PosTextC) (hFt : FaultTextC) (w : World) (hL : LaidT w) : Calls Tryd.prog 7 #[] w fun e w' => e = .returned (.bool true) ∧ Below w.heap.size w w' := by
  have hst0 : Hid (WK w w.heap.size (w.heap.size + 1) ((w.alloc (.cells #[.int .i64 0, .int .i64 2, .int .i64 3, .int .i64 4, .int .i64 5] 3)).alloc (.cells #[.string ⟨#[49, 58, 49]⟩, .string ⟨#[49, 58, 51]⟩, .string ⟨#[50, 58, 49]⟩, .string ⟨#[50, 58, 50]⟩, .string ⟨#[48, 58, 48]⟩] 9))) :=
    ⟨tb_new w _ _, hL.below (((Below.refl _ _).alloc (Nat.le_refl _) _).alloc (by simp) _), ((Below.refl _ _).alloc (Nat.le_refl _) _).alloc (by simp) _⟩
  have HOf := Lib.hid hOf
  have HPl := Lib.hid hPl
  have HTx := Lib.hid hTx
  have HFt := Lib.hid hFt
  clear hOf hPl hTx hFt hL
  go_enter Tryd.func7, Tryd.ntmps7
  go_wp2_with fail
  go_loopw [4] (fun v W => ∃ j : Nat, j ≤ 5 ∧ v = .int .i64 j ∧ Hid (WK w w.heap.size (w.heap.size + 1) W)) (fun v _ => 5 - (intOf v).toNat)
  case atStart => exact ⟨0, by omega, rfl, hst0⟩
  case round =>
    obtain ⟨j, hj, rfl, hst⟩ := hrel
    clear hst0
    by_cases hlt : j < 5
    · have hlt' : (j : Int) < 5 := by omega
      have hcA := hst.out.tb.at_ j hlt
      obtain ⟨l, c, hl, hc, hof, htx⟩ := exOf j hlt
      have hq := HOf.out ⟨#[97, 98, 10, 99]⟩ (exA j : Nat) wr (by decide) (exA_in j hlt)
      have hof' : ofV (⟨#[97, 98, 10, 99]⟩ : ByteArray).data.toList (exA j : Nat) = (l, c, decide (j < 4)) := hof
      rw [hof'] at hq
      have HTX := Lib.hid htx
      have HL := Lib.hid (And.intro hl hc)
      clear hof hof' htx hl hc
      go_wp2_with fail
      refine hq.mono ?_
      rintro e w1 ⟨rfl, hb1⟩
      have hst1 := Lib.hid (hst.out.step hb1)
      clear hq hst hb1
      go_wp2_with fail
      have hst2 := hst1.out.step (below_new__ w1 (.cells #[.int .i64 l, .int .i64 c] 23))
      have hpb := PB.new w1 l c 23
      generalize w1.alloc (.cells #[.int .i64 l, .int .i64 c] 23) = W at *
      generalize w1.heap.size = gp at *
      have hst3 := hst2.step (Below.refl W.heap.size W).drew
      have hp3 := hpb.step (Below.refl W.heap.size W).drew
      have s0 : W.drew.cell? ⟨gp, 0, none⟩ = some (.int .i64 l) ∧ W.drew.cell? ⟨gp, 1, none⟩ = some (.int .i64 c) ∧ W.drew.cell? ⟨w.heap.size + 1, j, none⟩ = some (.string (exW j)) := ⟨hp3.c0, hp3.c1, hst3.tb.want j hlt⟩
      have hq := HTx.out l c W.drew hst3.laid HL.out.1 HL.out.2
      rw [HTX.out] at hq
      have hee : (exW j).toList == (exW j).toList := by simp
      have H3 := Lib.hid hst3
      have HP3 := Lib.hid hp3
      clear hst1 hst2 hst3 hpb hp3
      generalize hbe : decide (j < 4) = b at *
      have hbe2 : decide ((j : Int) < 4) = b := by rw [← hbe]; congr 1; simp; omega
      clear hbe
      go_region_held3 (fun w' => w'.cell? ⟨gp, 0, none⟩ = some (.int .i64 l) ∧ w'.cell? ⟨gp, 1, none⟩ = some (.int .i64 c) ∧ w'.cell? ⟨w.heap.size + 1, j, none⟩ = some (.string (exW j))) (first | exact s0 | exact s1)
        (first
          | (go_at_call 27
             with_reducible refine hq.mono ?_
             rintro e w2 ⟨rfl, hb2⟩
             have s1 : w2.cell? ⟨gp, 0, none⟩ = some (.int .i64 l) ∧ w2.cell? ⟨gp, 1, none⟩ = some (.int .i64 c) ∧ w2.cell? ⟨w.heap.size + 1, j, none⟩ = some (.string (exW j)) := ⟨(HP3.out.step hb2).c0, (HP3.out.step hb2).c1, (H3.out.step hb2).tb.want j hlt⟩
             have H4 := Lib.hid (H3.out.step hb2)))
      go_wp2_with fail
      exact ⟨⟨j + 1, by omega, by go_num, H4⟩, by simp [intOf]; omega⟩
    · obtain rfl : j = 5 := by omega
      have q1 := HPl.out ⟨#[97, 98, 10, 99]⟩ 1 4 wr (by decide) (by unfold in64; omega) (by unfold in64; omega)
      rw [show plV (⟨#[97, 98, 10, 99]⟩ : ByteArray).data.toList 1 4 = (0, false) from exPl1] at q1
      go_wp2_with fail
      refine q1.mono ?_
      rintro e w1 ⟨rfl, hb1⟩
      have hst1 := Lib.hid (hst.out.step hb1)
      have q2 := HPl.out ⟨#[97, 98, 10, 99]⟩ 2 2 w1 (by decide) (by unfold in64; omega) (by unfold in64; omega)
      rw [show plV (⟨#[97, 98, 10, 99]⟩ : ByteArray).data.toList 2 2 = (4, true) from exPl2] at q2
      clear q1 hst hb1
      go_wp2_with fail
      refine q2.mono ?_
      rintro e w2 ⟨rfl, hb2⟩
      have hst2 := Lib.hid (hst1.out.step hb2)
      clear q2 hst1 hb2
      go_wp2_with fail
      have q3 := HFt.out 3 7 80 (w2.alloc (.cells #[.int .i64 3, .int .i64 7, .int .i64 80] 45)) (hst2.out.laid.below (below_new__ w2 _)) (by unfold in64; omega) (by unfold in64; omega) (by unfold in64; omega)
      rw [exFt] at q3
      refine q3.mono ?_
      rintro e w3 ⟨rfl, hb3⟩
      have hst3 := Lib.hid ((hst2.out.step (below_new__ w2 _)).step hb3)
      clear q3 hst2 hb3
      go_wp2_with fail
      go_ret
      exact ⟨by first | rfl | simp, hst3.out.below⟩
end

section
open Go.RowKit

theorem bthen4 {w W W' : World} (h : Below w.heap.size w W) (hb : Below W.heap.size W W') : Below w.heap.size w W' := h.trans (hb.mono h.size)
/-- What PosPlaces keeps: three positions in boxes, and the library's variables. -/
structure KP (w : World) (g0 g1 g2 : Nat) (l c l1 c1 l2 c2 : Int) (W : World) : Prop where
  arg : PB W g0 l c
  a : PB W g1 l1 c1
  b : PB W g2 l2 c2
  laid : LaidT W
  below : Below w.heap.size w W
theorem KP.step {w W W' : World} {g0 g1 g2 : Nat} {l c l1 c1 l2 c2 : Int} (h : KP w g0 g1 g2 l c l1 c1 l2 c2 W) (hb : Below W.heap.size W W') : KP w g0 g1 g2 l c l1 c1 l2 c2 W' :=
  ⟨h.arg.step hb, h.a.step hb, h.b.step hb, h.laid.below hb, bthen4 h.below hb⟩

/-- Cells that may be written. -/
def CS (W : World) (g n : Nat) : Prop := ∀ i, i < n → (∃ v, W.cell? ⟨g, i, none⟩ = some v) ∧ W.frozen? ⟨g, i, none⟩ = false
theorem CS.step {W W' : World} {g n : Nat} (h : CS W g n) (hb : Below W.heap.size W W') : CS W' g n := fun i hi => by
  obtain ⟨⟨v, hv⟩, hf⟩ := h i hi
  have hlt := World.block_lt_of_cell? W ⟨g, i, none⟩ hv
  exact ⟨⟨v, (hb.cell (p := ⟨g, i, none⟩) hlt).trans hv⟩, (hb.frozen (p := ⟨g, i, none⟩) hlt).trans hf⟩
theorem CS.set_ {W : World} {g n : Nat} (h : CS W g n) (i : Nat) (u : Value) : CS (W.setCell ⟨g, i, none⟩ u) g n := fun j hj => by
  obtain ⟨⟨v, hv⟩, hf⟩ := h j hj
  refine ⟨?_, by simpa using hf⟩
  by_cases e : j = i
  · subst e; exact ⟨u, World.cell?_setCell_same _ _ _ hv⟩
  · exact ⟨v, (World.cell?_setCell_other _ _ _ _ (fun e2 => by injection e2; omega)).trans hv⟩
theorem GrowS.block {w W : World} {v : Value} {r : List (List UInt8)} (h : GrowS w v r W) (hr : r ≠ []) : ∃ g c, v = .slice (some ⟨g, 0, none⟩) r.length c ∧ w.heap.size ≤ g ∧ g < W.heap.size ∧ CS W g r.length := by
  rcases h.1.2 with ⟨_, h0⟩ | ⟨g, cap, cur, hv, hg, hh, h1, h2, h3, _⟩
  · exact absurd (List.eq_nil_of_length_eq_zero h0) hr
  · refine ⟨g, cap, hv, hg, (Array.getElem?_eq_some_iff.1 hh).1, fun i hi => ⟨?_, ?_⟩⟩
    · rw [cell_of_row W g i cur _ (0, 0) hh]
      have : i < cur.size := by omega
      exact ⟨cur[i], by simp [this]⟩
    · simp [World.frozen?, hh]
theorem rows_ne (L : List UInt8) : rows L ≠ [] := by unfold rows; simp
theorem rows_le (L : List UInt8) : (rows L).length ≤ L.length + 1 := by rw [rows_len]; exact (spot_pos L L.length).2.2.1

set_option maxHeartbeats 4000000 in
set_option maxRecDepth 100000 in
theorem places_any (hOf : PosOfC) (hPl : PosPlaceC) (hLi : PosLinesC) (hTx : PosTextC) (hFt : FaultTextC) (s : ByteArray) (z l c : Int) (w : World) (hL : LaidT w) (hs : s.size ≤ 400) (hz : in64 z) (hl : in64 l) (hc : in64 c) :
    Calls Tryd.prog 3 #[.string s, .int .i64 z, .agg #[.int .i64 l, .int .i64 c]] w fun e w' => e = .returned (.bool true) ∧ Below w.heap.size w w' := by
  have hs4 : ¬ ((400 : Int) < s.size) := by omega
  have qo := fun w => hOf s z w (by omega) hz
  have qr := fun w => refPosOf s z w (by omega)
  have qp := fun w => hPl s l c w (by omega) hl hc
  have qq := fun w => refPlaceV s l c w (by omega)
  generalize ofV s.data.toList z = ov at *
  obtain ⟨o1, o2, o3⟩ := ov
  generalize plV s.data.toList l c = pv at *
  obtain ⟨p1, p2⟩ := pv
  simp only at qo qr qp qq
  have QL := Lib.hid (fun w => hLi s w (by omega))
  have QR := Lib.hid (fun w => refLines s (by omega) w)
  have QW := Lib.hid (fun w hL => works_pos hOf hPl hTx hFt w hL)
  have hg0 := PB.new w l c 23
  have hb0 := below_new__ w (.cells #[.int .i64 l, .int .i64 c] 23)
  have hL0 := hL.below hb0
  clear hOf hPl hLi hTx hFt hz hl hc hL
  go_enter Tryd.func3, Tryd.ntmps3
  go_wp2_with fail
  refine (qo _).mono ?_
  rintro e w1 ⟨rfl, hb1⟩
  have hg1 := hg0.step hb1
  have hL1 := hL0.below hb1
  have hb01 := bthen4 hb0 hb1
  clear hg0 hL0 hb0 hb1
  go_wp2_with fail
  refine (qr _).mono ?_
  rintro e w2 ⟨rfl, hb2⟩
  have hbn := below_new__ w1 (.cells #[.int .i64 o1, .int .i64 o2] 23)
  have hk2 : KP w w.heap.size w1.heap.size w2.heap.size l c o1 o2 o1 o2 (w2.alloc (.cells #[.int .i64 o1, .int .i64 o2] 27)) :=
    ⟨((hg1.step hbn).step hb2).step (below_new__ w2 _), ((PB.new w1 o1 o2 _).step hb2).step (below_new__ w2 _), PB.new w2 o1 o2 _, ((hL1.below hbn).below hb2).below (below_new__ w2 _), bthen4 (bthen4 (bthen4 hb01 hbn) hb2) (below_new__ w2 _)⟩
  clear hg1 hL1 hb01 hb2 hbn qo qr
  have hk2 := Lib.hid hk2
  have a0 := hk2.out.arg.c0
  have a1 := hk2.out.arg.c1
  go_wp2_with fail
  generalize w2.alloc (.cells #[.int .i64 o1, .int .i64 o2] 27) = W2 at *
  refine (qp _).mono ?_
  rintro e w3 ⟨rfl, hb3⟩
  have hk3 := Lib.hid (hk2.out.step hb3)
  clear hb3 hk2 a0 a1 qp
  have a0 := hk3.out.arg.c0
  have a1 := hk3.out.arg.c1
  go_wp2_with fail
  refine (lawRef l c _).mono ?_
  rintro e w4 ⟨rfl, hb4⟩
  have hk4 := Lib.hid (hk3.out.step hb4)
  clear hb4 hk3 a0 a1
  go_wp2_with fail
  refine (qq _).mono ?_
  rintro e w5 ⟨rfl, hb5⟩
  have hk5 := Lib.hid (hk4.out.step hb5)
  clear hb5 hk4 qq
  go_wp2_with fail
  go_loopw [15] (fun v W => ∃ t : Nat, t ≤ 2 ∧ v = .int .i64 t ∧ Hid (KP w w.heap.size w1.heap.size w2.heap.size l c o1 o2 o1 o2 W)) (fun v _ => 2 - (intOf v).toNat)
  case atStart => exact ⟨0, by omega, rfl, hk5⟩
  case round =>
    obtain ⟨t, ht, rfl, hk⟩ := hrel
    clear hk5
    by_cases hlt : t < 2
    · have hlt' : (t : Int) < 2 := by omega
      go_wp2_with fail
      refine (QL.out wr).mono ?_
      rintro e w6 ⟨v, rfl, hgs⟩
      obtain ⟨A, cA, hv, hrow⟩ := hgs.row
      obtain ⟨g, cg, hv2, hbase, hglt, hcs⟩ := hgs.block (rows_ne _)
      have hb6 := hgs.2
      have hnr := rows_le s.data.toList
      rw [size_len_] at hnr
      subst hv2
      injection hv with e1 e2 e3
      subst e1 e3
      clear e2 hgs
      go_wp2_with fail
      refine (QR.out w6).mono ?_
      rintro e w7 ⟨v2, rfl, hgs2⟩
      obtain ⟨A2, cA2, hv2, hrow2⟩ := hgs2.row
      subst hv2
      have hb7 := hgs2.2
      clear hgs2
      have hsame := kitSame (hrow.below hb7) hrow2 (c := cg) (c' := cA2) (by omega)
      have hcs7 := hcs.step hb7
      have hbw7 := bthen4 hb6 hb7
      clear hrow hrow2 hcs hb6 hb7
      obtain ⟨n, hn⟩ : ∃ n, n = (rows s.data.toList).length := ⟨_, rfl⟩
      rw [← hn] at hsame hcs7 hnr
      rw [← hn]
      have HN := Lib.hid hn
      clear hn
      go_wp2_with fail
      refine hsame.mono ?_
      rintro e w8 ⟨rfl, hb8⟩
      have hst8 : Hid (CS w8 g n ∧ Below wr.heap.size wr w8) := ⟨hcs7.step hb8, bthen4 hbw7 hb8⟩
      clear hsame hcs7 hbw7 hb8 hglt
      go_wp2_with fail
      obtain ⟨wo, hwo⟩ : ∃ wo : World, wo = wr := ⟨_, rfl⟩
      rw [← hwo] at hst8 hbase hk
      clear hwo
      go_loopw [17] (fun v W => ∃ i : Nat, i ≤ n ∧ v = .int .i64 i ∧ Hid (CS W g n ∧ Below wo.heap.size wo W)) (fun v _ => n - (intOf v).toNat)
      case atStart => exact ⟨0, by omega, rfl, hst8⟩
      case round =>
        obtain ⟨i, hi, rfl, hcs⟩ := hrel
        clear hst8
        by_cases hin : i < n
        · have hin' : (i : Int) < n := by omega
          obtain ⟨⟨v, hv⟩, hf⟩ := hcs.out.1 i hin
          go_wp2_with fail
          refine ⟨⟨i + 1, by omega, by go_num, ?_⟩, by simp [intOf]; omega⟩
          exact ⟨hcs.out.1.set_ i _, hcs.out.2.setCell hbase _⟩
        · obtain rfl : i = n := by omega
          have hin' : ¬ (i : Int) < i := by omega
          go_wp2_with fail
          refine ⟨⟨t + 1, by omega, by go_num, hk.out.step hcs.out.2⟩, by simp [intOf]; omega⟩
    · obtain rfl : t = 2 := by omega
      have hk6 := hk.out.step (Below.refl wr.heap.size wr).drew
      have b0 := hk6.a.c0
      have b1 := hk6.a.c1
      have b2 := hk6.b.c0
      have b3 := hk6.b.c1
      have s0 := And.intro b0 (And.intro b1 (And.intro b2 b3))
      have hk6 := Lib.hid hk6
      have qf := fun W => lawRef o1 o2 W
      clear b0 b1 b2 b3 hk
      go_wp2_with fail
      go_region_held3 (fun w' => w'.cell? ⟨w1.heap.size, 0, none⟩ = some (.int .i64 o1) ∧ w'.cell? ⟨w1.heap.size, 1, none⟩ = some (.int .i64 o2) ∧ w'.cell? ⟨w2.heap.size, 0, none⟩ = some (.int .i64 o1) ∧ w'.cell? ⟨w2.heap.size, 1, none⟩ = some (.int .i64 o2)) (first | exact s0 | exact s1 | exact s2)
        (first
          | (go_at_call 12
             with_reducible refine (qf _).mono ?_
             rintro e w8 ⟨rfl, hb8⟩
             have hk8 := Lib.hid (hk6.out.step hb8)
             have s1 := And.intro hk8.out.a.c0 (And.intro hk8.out.a.c1 (And.intro hk8.out.b.c0 hk8.out.b.c1)))
          | (go_at_call 7
             with_reducible refine (QW.out _ hk8.out.laid).mono ?_
             rintro e w9 ⟨rfl, hb9⟩
             have hk9 := Lib.hid (hk8.out.step hb9)
             have s2 := And.intro hk9.out.a.c0 (And.intro hk9.out.a.c1 (And.intro hk9.out.b.c0 hk9.out.b.c1))))
      go_wp2_with fail
      go_ret
      exact ⟨rfl, hk9.out.below⟩

set_option maxHeartbeats 400000 in
theorem places_long (hOf : PosOfC) (hPl : PosPlaceC) (hTx : PosTextC) (hFt : FaultTextC) (s : ByteArray) (z l c : Int) (w : World) (hL : LaidT w) (hs : 400 < s.size) (hm : s.size ≤ maxLen) :
    Calls Tryd.prog 3 #[.string s, .int .i64 z, .agg #[.int .i64 l, .int .i64 c]] w fun e w' => e = .returned (.bool true) ∧ Below w.heap.size w w' := by
  unfold maxLen at hm
  have hs4 : (400 : Int) < s.size := by omega
  have hb0 := below_new__ w (.cells #[.int .i64 l, .int .i64 c] 23)
  have hq := works_pos hOf hPl hTx hFt (w.alloc (.cells #[.int .i64 l, .int .i64 c] 23)) (hL.below hb0)
  clear hOf hPl hTx hFt
  go_enter Tryd.func3, Tryd.ntmps3
  go_wp2_with fail
  refine hq.mono ?_
  rintro e w1 ⟨rfl, hb1⟩
  go_wp2_with fail
  go_ret
  exact ⟨rfl, bthen4 hb0 hb1⟩
end

section
open Go.RowKit

/-- What is told of i rows, with bytes 10 between. -/
theorem joined_take (r : List (List UInt8)) (i : Nat) (l : List UInt8) (h : r[i]? = some l) : joined (r.take (i + 1)) = if i = 0 then l else joined (r.take i) ++ 10 :: l := by
  rw [List.take_add_one, h]
  by_cases h0 : i = 0
  · subst h0
    rw [if_pos rfl]
    rfl
  · rw [if_neg h0]
    have hne : r.take i ≠ [] := by
      intro e
      have hl : i < r.length := (List.getElem?_eq_some_iff.1 h).1
      have h2 : (r.take i).length = 0 := by rw [e]; rfl
      rw [List.length_take] at h2
      omega
    exact joined_snoc _ _ hne
theorem joined_step (r : List (List UInt8)) (i : Nat) (l : List UInt8) (h : r[i]? = some l) : (joined (r.take i)).length ≤ (joined (r.take (i + 1))).length ∧ l.length ≤ (joined (r.take (i + 1))).length := by
  rw [joined_take r i l h]
  by_cases h0 : i = 0
  · rw [if_pos h0, h0]; simp [joined]
  · rw [if_neg h0]; simp; omega
theorem joined_le (r : List (List UInt8)) (d : Nat) : ∀ i, i + d = r.length → (joined (r.take i)).length ≤ (joined r).length := by
  induction d with
  | zero => intro i h; rw [List.take_of_length_le (by omega)]; exact Nat.le_refl _
  | succ d ih =>
    intro i h
    have h1 := ih (i + 1) (by omega)
    exact Nat.le_trans (joined_step r i _ (List.getElem?_eq_getElem (by omega))).1 h1
theorem joined_sizes (s : ByteArray) (i : Nat) (l : List UInt8) (h : (rows s.data.toList)[i]? = some l) : (txt (joined ((rows s.data.toList).take i))).size ≤ s.size ∧ (txt l).size ≤ s.size := by
  have hl : i < (rows s.data.toList).length := (List.getElem?_eq_some_iff.1 h).1
  have h1 := joined_step _ i l h
  have h2 := joined_le (rows s.data.toList) ((rows s.data.toList).length - (i + 1)) (i + 1) (by omega)
  rw [joined_rows, size_len_] at h2
  rw [txt_size, txt_size]
  omega
theorem txt_append (a b : List UInt8) : txt a ++ txt b = txt (a ++ b) := by
  apply ByteArray.ext
  simp [txt]
theorem spot_in (L : List UInt8) (i : Nat) (h : i ≤ 1000) : in64 ((spot L i).1 : Nat) ∧ in64 ((spot L i).2 : Nat) := by
  have := spot_pos L i
  unfold in64
  omega

theorem size_pos_ (W : World) (o : Obj) : W.heap.size < (W.alloc o).heap.size := by simp
/-- A fault in a box. -/
structure FB (W : World) (g : Nat) (l c n : Int) : Prop where
  c0 : W.cell? ⟨g, 0, none⟩ = some (.int .i64 l)
  c1 : W.cell? ⟨g, 1, none⟩ = some (.int .i64 c)
  c2 : W.cell? ⟨g, 2, none⟩ = some (.int .i64 n)
theorem FB.step {W W' : World} {g : Nat} {l c n : Int} (h : FB W g l c n) (hb : Below W.heap.size W W') : FB W' g l c n :=
  ⟨(hb.cell (p := ⟨g, 0, none⟩) (World.block_lt_of_cell? W ⟨g, 0, none⟩ h.c0)).trans h.c0, (hb.cell (p := ⟨g, 1, none⟩) (World.block_lt_of_cell? W ⟨g, 1, none⟩ h.c1)).trans h.c1, (hb.cell (p := ⟨g, 2, none⟩) (World.block_lt_of_cell? W ⟨g, 2, none⟩ h.c2)).trans h.c2⟩
theorem FB.new (W : World) (l c n : Int) (T : TypeId) : FB (W.alloc (.cells #[.int .i64 l, .int .i64 c, .int .i64 n] T)) W.heap.size l c n := ⟨by simp [go_sem], by simp [go_sem], by simp [go_sem]⟩
theorem FB.far {W : World} {g : Nat} {l c n : Int} (h : FB W g l c n) {p : Addr} (hp : p.block ≠ g) (u : Value) : FB (W.setCell p u) g l c n :=
  ⟨(World.cell?_setCell_other _ _ _ _ (fun e => hp (by rw [e]))).trans h.c0, (World.cell?_setCell_other _ _ _ _ (fun e => hp (by rw [e]))).trans h.c1, (World.cell?_setCell_other _ _ _ _ (fun e => hp (by rw [e]))).trans h.c2⟩

/-- The position ahead of a place's. -/
def lastV (L : List UInt8) : Nat → Int × Int
  | 0 => (0, 0)
  | i + 1 => (((spot L i).1 : Nat), ((spot L i).2 : Nat))
theorem lastV_cmp (L : List UInt8) (i : Nat) : posCmp (lastV L i).1 (lastV L i).2 ((spot L i).1 : Nat) ((spot L i).2 : Nat) = -1 := by
  have hp := spot_pos L i
  cases i with
  | zero => rfl
  | succ i =>
    have := spot_next L i
    unfold ahead at this
    show posCmp ((spot L i).1 : Nat) ((spot L i).2 : Nat) _ _ = -1
    unfold posCmp
    rw [if_neg (by omega), if_pos (by omega)]
theorem lastV_in (L : List UInt8) (i : Nat) (h : i ≤ 1000) : in64 (lastV L i).1 ∧ in64 (lastV L i).2 := by
  cases i with
  | zero => exact ⟨by show in64 0; unfold in64; omega, by show in64 0; unfold in64; omega⟩
  | succ i => exact spot_in L i (by omega)

/-- What PosBack's second loop holds. -/
structure BK (w : World) (gf gl : Nat) (l c n : Int) (A : Option Addr) (k : Nat) (r : List (List UInt8)) (a b : Int) (W : World) : Prop where
  f : FB W gf l c n
  last : PB W gl a b
  row : RowS W A k r
  laid : Laid W
  ne : gf ≠ gl
  far : ∀ ad, A = some ad → ad.block ≠ gl
  base : w.heap.size ≤ gl
  lib : Laid w
  below : Below w.heap.size w W
theorem BK.step {w W W' : World} {gf gl k : Nat} {l c n a b : Int} {A : Option Addr} {r : List (List UInt8)} (h : BK w gf gl l c n A k r a b W) (hb : Below W.heap.size W W') : BK w gf gl l c n A k r a b W' :=
  ⟨h.f.step hb, h.last.step hb, h.row.below hb, h.laid.below hb, h.ne, h.far, h.base, h.lib, bthen4 h.below hb⟩
theorem RowS.far {W : World} {A : Option Addr} {n : Nat} {r : List (List UInt8)} (h : RowS W A n r) {p : Addr} (hp : ∀ ad, A = some ad → ad.block ≠ p.block) (u : Value) : RowS (W.setCell p u) A n r := by
  have e : (W.setCell p u).heap.size = W.heap.size := by simp [World.setCell]
  refine ⟨h.1, fun hn => ?_⟩
  obtain ⟨ad, e1, hb, hc⟩ := h.2 hn
  refine ⟨ad, e1, by rw [e]; exact hb, fun j x hx => ?_⟩
  rw [World.cell?_setCell_other W p (ad.add j) u (fun e2 => hp ad e1 (by rw [e2, block_of_add]))]
  exact hc j x hx
theorem BK.put {w W : World} {gf gl k : Nat} {l c n a b : Int} {A : Option Addr} {r : List (List UInt8)} (h : BK w gf gl l c n A k r a b W) (x y : Int) : BK w gf gl l c n A k r x y ((W.setCell ⟨gl, 0, none⟩ (.int .i64 x)).setCell ⟨gl, 1, none⟩ (.int .i64 y)) := by
  have hbw := (h.below.setCell (p := ⟨gl, 0, none⟩) h.base (.int .i64 x)).setCell (p := ⟨gl, 1, none⟩) h.base (.int .i64 y)
  exact ⟨(h.f.far (fun e => h.ne e.symm) _).far (fun e => h.ne e.symm) _, h.last.both x y, (h.row.far h.far _).far h.far _, h.lib.below hbw, h.ne, h.far, h.base, h.lib, hbw⟩

theorem row_cell {W : World} {ad : Addr} {n : Nat} {r : List (List UInt8)} {row : List UInt8} {bs : ByteArray} {q : Nat} (h : RowS W (some ad) n r) (hq : q < n) (hr : r[q]? = some row) (hb : bs = txt row) : W.cell? (ad.add q) = some (.string bs) := by
  obtain ⟨ad4, row4, hA, h4, hc⟩ := h.at_ hq
  injection hA with hA
  subst hA
  rw [hr] at h4
  injection h4 with h4
  subst h4
  rw [hb]
  exact hc

set_option maxHeartbeats 4000000 in
set_option maxRecDepth 100000 in
theorem back_any (hOf : PosOfC) (hPl : PosPlaceC) (hLi : PosLinesC) (hCm : PosCmpC) (hTx : PosTextC) (hFt : FaultTextC) (hRd : PosReadC) (hRf : ReadFaultC) (s : ByteArray) (l c n : Int) (w : World) (hL : Laid w) (hs : s.size ≤ 200) (hl : in64 l) (hc : in64 c) (hn : in64 n) :
    Calls Tryd.prog 5 #[.string s, .agg #[.int .i64 l, .int .i64 c, .int .i64 n]] w fun e w' => e = .returned (.bool true) ∧ Below w.heap.size w w' := by
  have hs4 : ¬ ((200 : Int) < s.size) := by omega
  have hb0 := below_new__ w (.cells #[.int .i64 l, .int .i64 c, .int .i64 n] 45)
  have qL := fun w => hLi s w (by omega)
  have HOf := Lib.hid hOf
  have HPl := Lib.hid hPl
  have HCm := Lib.hid hCm
  have HTx := Lib.hid hTx
  have HFt := Lib.hid hFt
  have HRd := Lib.hid hRd
  have HRf := Lib.hid hRf
  clear hOf hPl hLi hCm hTx hFt hRd hRf
  go_enter Tryd.func5, Tryd.ntmps5
  go_wp2_with fail
  refine (qL _).mono ?_
  rintro e w1 ⟨v, rfl, hgs⟩
  obtain ⟨A, cA, rfl, hrow⟩ := hgs.row
  have hb1 := hgs.2
  clear hgs qL
  go_wp2_with fail
  obtain ⟨k, hk⟩ : ∃ k, k = (rows s.data.toList).length := ⟨_, rfl⟩
  have hkl := rows_le s.data.toList
  rw [size_len_, ← hk] at hkl
  rw [← hk] at hrow
  rw [← hk]
  have HK := Lib.hid hk
  clear hk
  go_loopw [6, 7] (fun v u W => ∃ i : Nat, i ≤ k ∧ v = .string (txt (joined ((rows s.data.toList).take i))) ∧ u = .int .i64 i ∧ W = w1) (fun _ u _ => k - (intOf u).toNat)
  case atStart => exact ⟨0, by omega, rfl, rfl, rfl⟩
  case round =>
    obtain ⟨i, hi, rfl, rfl, rfl⟩ := hrel
    by_cases hlt : i < k
    · obtain ⟨ad, row, rfl, hr, hcell⟩ := hrow.at_ hlt
      have hlt' : (i : Int) < k := by omega
      have hj := joined_take _ i row hr
      obtain ⟨hz1, hz2⟩ := joined_sizes s i row hr
      replace hcell : wr.cell? (ad.add i) = some (.string (txt row)) := hcell
      have HS : Hid (if i = 0 then txt (joined ((rows s.data.toList).take (i + 1))) = txt (joined ((rows s.data.toList).take i)) ++ txt row else txt (joined ((rows s.data.toList).take (i + 1))) = (txt (joined ((rows s.data.toList).take i)) ++ ⟨#[10]⟩) ++ txt row) := by
        show ite _ _ _
        rw [hj]
        by_cases h0 : i = 0
        · subst h0
          rw [if_pos rfl, if_pos rfl, txt_append]
          rfl
        · rw [if_neg h0, if_neg h0, show (⟨#[10]⟩ : ByteArray) = txt [10] from rfl, txt_append, txt_append]
          congr 1
          simp
      have HR := Lib.hid hr
      have HW := Lib.hid hrow
      have HG : Hid (joined ((rows s.data.toList).take i) = joined ((rows s.data.toList).take i)) := rfl
      clear hj hr hrow HG
      generalize txt (joined ((rows s.data.toList).take i)) = a at *
      generalize txt row = b at *
      have hz10 : ((⟨#[10]⟩ : ByteArray)).size = 1 := rfl
      by_cases h0 : i = 0
      · subst h0
        have hcell0 : wr.cell? ad = some (.string b) := by simpa [Addr.add] using hcell
        have HS2 := Lib.hid (show txt (joined ((rows s.data.toList).take (0 + 1))) = a ++ b from by have := HS.out; rwa [if_pos rfl] at this)
        clear HS
        go_wp2_with fail
        refine ⟨⟨1, by omega, ?_, by go_num, by trivial⟩, by simp [intOf]; omega⟩
        rw [HS2.out]
      · have h0' : (0 : Int) < i := by omega
        have HS2 := Lib.hid (show txt (joined ((rows s.data.toList).take (i + 1))) = (a ++ ⟨#[10]⟩) ++ b from by have := HS.out; rwa [if_neg h0] at this)
        clear HS
        go_wp2_with fail
        refine ⟨⟨i + 1, by omega, ?_, by go_num, by trivial⟩, by simp [intOf]; omega⟩
        rw [HS2.out]
    · obtain rfl : i = k := by omega
      have hlt' : ¬ (i : Int) < i := by omega
      have hj : txt (joined ((rows s.data.toList).take i)) = s := by
        rw [HK.out, List.take_length, joined_rows]
        exact ByteArray.ext (by simp [txt])
      rw [hj]
      have hrn : i ≠ 0 := by
        intro h0
        have := HK.out
        rw [h0] at this
        exact rows_ne s.data.toList (List.eq_nil_of_length_eq_zero this.symm)
      have hkw : Hid (BK w w.heap.size wr.heap.size l c n A i (rows s.data.toList) 0 0 (wr.alloc (.cells #[.int .i64 0, .int .i64 0] 23))) := by
        have hbn := below_new__ wr (.cells #[.int .i64 0, .int .i64 0] 23)
        refine ⟨((FB.new w l c n 45).step hb1).step hbn, PB.new wr 0 0 _, hrow.below hbn, (hL.below (bthen4 hb0 hb1)).below hbn, ?_, ?_, ?_, hL, bthen4 (bthen4 hb0 hb1) hbn⟩
        · have := hb1.size; have := size_pos_ w (.cells #[.int .i64 l, .int .i64 c, .int .i64 n] 45); omega
        · rintro ad rfl
          obtain ⟨ad2, e, hlt, _⟩ := hrow.2 (by omega)
          injection e with e; subst e; omega
        · have := hb1.size; have := size_pos_ w (.cells #[.int .i64 l, .int .i64 c, .int .i64 n] 45); omega
      have HB1 := Lib.hid hb1
      have HRW := Lib.hid hrow
      clear hj hb1 hrow
      go_wp2_with fail
      generalize wr.alloc (.cells #[.int .i64 0, .int .i64 0] 23) = W1 at *
      generalize wr.heap.size = gl at *
      go_loopw [9] (fun v W => ∃ j : Nat, j ≤ s.size + 1 ∧ v = .int .i64 j ∧ Hid (BK w w.heap.size gl l c n A i (rows s.data.toList) (lastV s.data.toList j).1 (lastV s.data.toList j).2 W)) (fun v _ => s.size + 1 - (intOf v).toNat)
      case atStart => exact ⟨0, by omega, rfl, hkw⟩
      case round =>
        obtain ⟨j, hj, rfl, hst⟩ := hrel
        clear hkw
        by_cases hle : j ≤ s.size
        · have hle' : (j : Int) ≤ s.size := by omega
          have qo := HOf.out s j wr (by omega) (by unfold in64; omega)
          rw [ofV_yes (by rw [size_len_]; exact hle)] at qo
          have hin := spot_in s.data.toList j (by omega)
          have hplv := plV_yes (L := s.data.toList) (l := ((spot s.data.toList j).1 : Nat)) (c := ((spot s.data.toList j).2 : Nat)) (k := j) (by rw [size_len_]; exact hle) ⟨rfl, rfl⟩
          have qp := fun w => HPl.out s ((spot s.data.toList j).1 : Nat) ((spot s.data.toList j).2 : Nat) w (by omega) hin.1 hin.2
          rw [hplv] at qp
          have hlin := lastV_in s.data.toList j (by omega)
          have qc := fun w => HCm.out _ _ _ _ w hlin.1 hlin.2 hin.1 hin.2
          rw [lastV_cmp] at qc
          have hnext : Hid (lastV s.data.toList (j + 1) = ((((spot s.data.toList j).1 : Nat) : Int), (((spot s.data.toList j).2 : Nat) : Int))) := rfl
          have hsp := spot_pos s.data.toList j
          obtain ⟨row, hrow, hlen⟩ := spot_row s.data.toList j (by rw [size_len_]; exact hle)
          clear hplv hin hlin
          generalize spot s.data.toList j = P at *
          obtain ⟨p1, p2⟩ := P
          simp only at qo qp qc hrow hlen hsp
          obtain ⟨q, rfl⟩ : ∃ q, p1 = q + 1 := ⟨p1 - 1, by omega⟩
          rw [show q + 1 - 1 = q by omega] at hrow
          have hqk : q < i := by
            have := (List.getElem?_eq_some_iff.1 hrow).1
            have := HK.out
            omega
          generalize lastV s.data.toList j = lv at *
          obtain ⟨a, b⟩ := lv
          simp only at qc
          obtain ⟨pz, hpz⟩ : ∃ pz : Int, pz = ((q + 1 : Nat) : Int) := ⟨_, rfl⟩
          rw [← hpz] at qo qp qc
          have hpw : IntKind.i64.wrap (pz - 1) = (q : Int) := by rw [show pz - 1 = (q : Int) by omega]; exact IntWalk.i64_in _ (by omega)
          have HPZ := Lib.hid hpz
          have hqk' : (q : Int) < i := by omega
          have hlen' : (p2 : Int) ≤ (row.length : Int) + 1 := by omega
          have hp1 : (1 : Int) ≤ p2 := by omega
          have hrs : row.length ≤ 1000 := by
            have := (joined_sizes s q row hrow).2
            rw [txt_size] at this
            omega
          have hq1000 : q ≤ 1000 := by omega
          have HQC := Lib.hid qc
          clear qc hsp hpz
          go_wp2_with fail
          refine qo.mono ?_
          rintro e w2 ⟨rfl, hb2⟩
          have hst2 := Lib.hid ((hst.out.step hb2).step (below_new__ w2 (.cells #[.int .i64 pz, .int .i64 (p2 : Int)] 23)))
          have hpb := PB.new w2 pz (p2 : Int) 23
          clear qo hst hb2
          have b0 := hpb.c0
          have b1 := hpb.c1
          go_wp2_with fail
          generalize w2.alloc (.cells #[.int .i64 pz, .int .i64 (p2 : Int)] 23) = W2 at *
          generalize w2.heap.size = gp at *
          refine (qp _).mono ?_
          rintro e w3 ⟨rfl, hb3⟩
          have hst3 := Lib.hid ((hst2.out.step hb3).step (Below.refl w3.heap.size w3).drew)
          have hpb3 := Lib.hid ((hpb.step hb3).step (Below.refl w3.heap.size w3).drew)
          clear hst2 hpb hb3 qp b0 b1
          obtain ⟨ad, row2, hA, hr2, hcell⟩ := hst3.out.row.at_ hqk
          rw [hrow] at hr2
          injection hr2 with hr2
          subst hr2 hA
          replace hcell : w3.drew.cell? (ad.add q) = some (.string (txt row)) := hcell
          have hts := txt_size row
          have HROW := Lib.hid hrow
          clear hrow
          obtain ⟨bs, hbs⟩ : ∃ bs, bs = txt row := ⟨_, rfl⟩
          rw [← hbs] at hcell hts
          have HBS := Lib.hid hbs
          clear hbs
          have s0 := And.intro hpb3.out.c0 (And.intro hpb3.out.c1 (And.intro hst3.out.last.c0 (And.intro hst3.out.last.c1 hcell)))
          clear hcell
          have nA : ¬ ((i : Int) < pz) := by have := HPZ.out; omega
          have nB : ¬ (pz < 1) := by have := HPZ.out; omega
          have nC : ¬ ((p2 : Int) < 1) := by omega
          have nD : ¬ ((bs.size : Int) + 1 < (p2 : Int)) := by omega
          have nE : bs.size ≤ 1000 := by omega
          clear hts hlen' hp1
          go_wp2_with fail
          have hbw : IntKind.i64.wrap ((bs.size : Int) + 1) = (bs.size : Int) + 1 := IntWalk.i64_in _ (by omega)
          have mA : ((i : Int) < pz) = False := eq_false (by omega)
          have mB : (pz < 1) = False := eq_false (by omega)
          have mC : ((p2 : Int) < 1) = False := eq_false (by omega)
          have mD : ((bs.size : Int) + 1 < (p2 : Int)) = False := eq_false (by omega)
          clear nA nB nC nD
          go_region_held3 (fun w' => w'.cell? ⟨gp, 0, none⟩ = some (.int .i64 pz) ∧ w'.cell? ⟨gp, 1, none⟩ = some (.int .i64 (p2 : Int)) ∧ w'.cell? ⟨gl, 0, none⟩ = some (.int .i64 a) ∧ w'.cell? ⟨gl, 1, none⟩ = some (.int .i64 b) ∧ w'.cell? (ad.add q) = some (.string bs)) (first | exact s0 | exact s1)
            (first
              | (go_at_call 25
                 with_reducible refine (HQC.out _).mono ?_
                 rintro e w4 ⟨rfl, hb4⟩
                 have hst4 := Lib.hid (hst3.out.step hb4)
                 have hpb4 := Lib.hid (hpb3.out.step hb4)
                 have s1 := And.intro hpb4.out.c0 (And.intro hpb4.out.c1 (And.intro hst4.out.last.c0 (And.intro hst4.out.last.c1 (row_cell hst4.out.row hqk HROW.out HBS.out))))))
          have e0 := hpb4.out.c0
          have e1 := hpb4.out.c1
          have e2 := hst4.out.last.c0
          have e3 := hst4.out.last.c1
          have e4 := hst4.out.last.f0
          have e5 := hst4.out.last.f1
          clear s0 s1
          go_wp2_with fail
          refine ⟨⟨j + 1, by omega, by go_num, ?_⟩, by simp [intOf]; omega⟩
          rw [hnext.out]
          have hfin := hst4.out.put pz (p2 : Int)
          rw [HPZ.out] at hfin ⊢
          exact hfin
        · obtain rfl : j = s.size + 1 := by omega
          have hle' : ¬ ((s.size : Int) + 1 ≤ s.size) := by omega
          have f0 := hst.out.f.c0
          have f1 := hst.out.f.c1
          have f2 := hst.out.f.c2
          go_wp2_with fail
          have qt := HTx.out l c wr hst.out.laid.t hl hc
          refine qt.mono ?_
          rintro e v1 ⟨rfl, hv1⟩
          have hs1 := Lib.hid (hst.out.step hv1)
          have qr := HRd.out (txt (posText l c)) v1 hs1.out.laid (by rw [txt_size]; have := posText_len hl hc; omega)
          rw [txt_list, readV_yes hl hc] at qr
          clear qt hst hv1 f0 f1 f2
          go_wp2_with fail
          refine qr.mono ?_
          rintro e v2 ⟨rfl, hv2⟩
          have hs2 := Lib.hid ((hs1.out.step hv2).step (below_new__ v2 (.cells #[.int .i64 l, .int .i64 c] 23)))
          have hg2 := Lib.hid (PB.new v2 l c 23)
          clear qr hs1 hv2
          have f0 := hs2.out.f.c0
          have f1 := hs2.out.f.c1
          have f2 := hs2.out.f.c2
          go_wp2_with fail
          generalize v2.alloc (.cells #[.int .i64 l, .int .i64 c] 23) = V2 at *
          generalize v2.heap.size = g2 at *
          have qt := HFt.out l c n V2 hs2.out.laid.t hl hc hn
          refine qt.mono ?_
          rintro e v3 ⟨rfl, hv3⟩
          have hs3 := Lib.hid (hs2.out.step hv3)
          have hg3 := Lib.hid (hg2.out.step hv3)
          have qr := HRf.out (txt (faultText l c n)) v3 hs3.out.laid (by rw [txt_size]; have := faultText_len hl hc hn; omega)
          rw [txt_list, readF_yes hl hc hn] at qr
          clear qt hs2 hg2 hv3 f0 f1 f2
          go_wp2_with fail
          refine qr.mono ?_
          rintro e v4 ⟨rfl, hv4⟩
          have hs4' := Lib.hid ((hs3.out.step hv4).step (below_new__ v4 (.cells #[.int .i64 l, .int .i64 c, .int .i64 n] 45)))
          have hg4 := Lib.hid ((hg3.out.step hv4).step (below_new__ v4 (.cells #[.int .i64 l, .int .i64 c, .int .i64 n] 45)))
          have hf4 := Lib.hid (FB.new v4 l c n 45)
          clear qr hs3 hg3 hv4
          have f0 := hs4'.out.f.c0
          have f1 := hs4'.out.f.c1
          have f2 := hs4'.out.f.c2
          have h0 := hg4.out.c0
          have h1 := hg4.out.c1
          have k0 := hf4.out.c0
          have k1 := hf4.out.c1
          have k2 := hf4.out.c2
          have hss : (s.toList == s.toList) = true := by simp
          have qw := works_pos HOf.out HPl.out HTx.out HFt.out _ hs4'.out.laid.t
          go_wp2_with fail
          refine qw.mono ?_
          rintro e v5 ⟨rfl, hv5⟩
          have hfin := Lib.hid (bthen4 hs4'.out.below hv5)
          go_wp2_with fail
          go_ret
          exact ⟨rfl, hfin.out⟩

set_option maxHeartbeats 400000 in
theorem back_long (hOf : PosOfC) (hPl : PosPlaceC) (hTx : PosTextC) (hFt : FaultTextC) (s : ByteArray) (l c n : Int) (w : World) (hL : Laid w) (hs : 200 < s.size) (hm : s.size ≤ maxLen) :
    Calls Tryd.prog 5 #[.string s, .agg #[.int .i64 l, .int .i64 c, .int .i64 n]] w fun e w' => e = .returned (.bool true) ∧ Below w.heap.size w w' := by
  unfold maxLen at hm
  have hs4 : (200 : Int) < s.size := by omega
  have hb0 := below_new__ w (.cells #[.int .i64 l, .int .i64 c, .int .i64 n] 45)
  have hq := works_pos hOf hPl hTx hFt (w.alloc (.cells #[.int .i64 l, .int .i64 c, .int .i64 n] 45)) (hL.below hb0).t
  clear hOf hPl hTx hFt
  go_enter Tryd.func5, Tryd.ntmps5
  go_wp2_with fail
  refine hq.mono ?_
  rintro e w1 ⟨rfl, hb1⟩
  go_wp2_with fail
  go_ret
  exact ⟨rfl, bthen4 hb0 hb1⟩
end
end Go.Proofs.YtijliimiojjjdaaDoor
