/- The law DeciKnown. -/
import Derived.Test.YthcglobehoaocaaDoorLawE
import Derived.Test.YthcglobehoaocaaDoorRowIn
namespace Go.Proofs.YthcglobehoaocaaDoor
open Go.RowKit

/-- A slice of limbs. -/
def LS (w : World) (B : Option Addr) (n c : Nat) : Prop := ∃ l, Row w w.heap.size .u64 B n l ∧ Dig.Below LB l ∧ n ≤ c ∧ c ≤ maxLen
theorem LS.below {w w' : World} {B : Option Addr} {n c : Nat} (h : LS w B n c) (hb : Below w.heap.size w w') : LS w' B n c := by
  obtain ⟨l, h1, h2⟩ := h
  exact ⟨l, (h1.below hb).more hb.size, h2⟩
theorem lsNil (w : World) : LS w none 0 0 := ⟨[], Reads.none_, Dig.Below.nil _, Nat.le_refl _, by unfold maxLen; omega⟩

/-- What stands all the while. -/
structure KW (w W : World) : Prop where
  laid : Laid W
  below : Below w.heap.size w W
theorem KW.step {w W W' : World} (h : KW w W) (hb : Below W.heap.size W W') : KW w W' := ⟨h.laid.below hb, bthen h.below hb⟩

theorem anyDivides {A : Option Addr} {n c : Nat} (x : Int) (hx0 : 0 ≤ x) (hx1 : x < 18446744073709551616) {w : World} (hL : Laid w) (ha : LS w A n c) :
    Calls Tryd.prog 3 #[.slice A n c, .int .u64 x] w fun e w' => e = .returned (.bool true) ∧ Below w.heap.size w w' := by
  obtain ⟨l, a1, a2, a3, a4⟩ := ha
  obtain ⟨y, rfl⟩ := Int.eq_ofNat_of_zero_le hx0
  by_cases h : n ≤ 12
  · exact divides_any A n c y l w a1 a2 (by unfold LB; omega) a3 a4 hL h
  · exact divides_long A n c _ w hL a3 a4 (by omega)
theorem anyTexts {A : Option Addr} {n c : Nat} (m : Int) (m0 : -9223372036854775808 ≤ m) (m1 : m ≤ 9223372036854775807) {w : World} (hL : Laid w) (ha : LS w A n c) :
    Calls Tryd.prog 4 #[.slice A n c, .int .i64 m] w fun e w' => e = .returned (.bool true) ∧ Below w.heap.size w w' := by
  obtain ⟨l, a1, a2, a3, a4⟩ := ha
  by_cases h : n ≤ 6
  · exact texts_any A n c m l w a1 a2 hL h m0 m1
  · exact texts_long A n c m w hL (Nat.le_trans a3 a4) (by omega)
theorem anyBack {A B : Option Addr} {n c n' c' : Nat} (x m : Int) (s : ByteArray) (hx0 : 0 ≤ x) (hx1 : x < 18446744073709551616) (m0 : -9223372036854775808 ≤ m) (m1 : m ≤ 9223372036854775807) {w : World} (hL : Laid w) (ha : LS w A n c) (hb : LS w B n' c') :
    Calls Tryd.prog 6 #[.slice A n c, .slice B n' c', .int .u64 x, .int .i64 m, .string s] w fun e w' => e = .returned (.bool true) ∧ Below w.heap.size w w' := by
  obtain ⟨l, a1, a2, a3, a4⟩ := ha
  obtain ⟨l', b1, b2, b3, b4⟩ := hb
  obtain ⟨y, rfl⟩ := Int.eq_ofNat_of_zero_le hx0
  by_cases h : n ≤ 6 ∧ n' ≤ 6 ∧ s.size ≤ 60
  · exact back_any A n c l B n' c' l' y m s w a1 a2 b1 b2 (by unfold LB; omega) hL h.1 h.2.1 h.2.2 m0 m1
  · exact back_long A n c B n' c' y m s w hL (Nat.le_trans a3 a4) (Nat.le_trans b3 b4) h
theorem anyReads (s : ByteArray) (c0 : Int) {w : World} (hL : Laid w) :
    Calls Tryd.prog 5 #[.string s, .int .i64 c0] w fun e w' => e = .returned (.bool true) ∧ Below w.heap.size w w' := by
  by_cases h : s.size ≤ 60
  · exact reads_any s c0 w hL h
  · exact reads_long s c0 w hL h

/-- A u64, whatever it is. -/
theorem wrap64 (z : Int) : ∃ x : Nat, IntKind.u64.wrap z = (x : Int) ∧ x < LB := by
  have h : 0 ≤ IntKind.u64.wrap z ∧ IntKind.u64.wrap z < 18446744073709551616 := by rw [IntKind.wrap_u64]; omega
  obtain ⟨x, hx⟩ := Int.eq_ofNat_of_zero_le h.1
  exact ⟨x, hx, by unfold LB; omega⟩
theorem wrapI64 (z : Int) : -9223372036854775808 ≤ IntKind.i64.wrap z ∧ IntKind.i64.wrap z ≤ 9223372036854775807 := by
  rw [IntKind.wrap_i64]; omega

theorem szA (W : World) (o : Obj) : (W.alloc o).heap.size = W.heap.size + 1 := by simp
theorem lsNew {w : World} {cs : Array Value} (g : Nat) (hg : g = w.heap.size) (l : List Nat) (hcs : cs = (ints .u64 l).toArray) (hb : Dig.Below LB l) (hl : l.length ≤ 1000) : LS (w.alloc (.cells cs 23)) (some ⟨g, 0, none⟩) l.length l.length := by
  subst hg hcs
  have hblk : Blk (w.alloc (.cells (ints .u64 l).toArray 23)) w.heap.size 23 .u64 l := heap_alloc_new w _
  exact ⟨l, hblk.row, hb, Nat.le_refl _, by unfold maxLen; omega⟩
theorem ls1 (w : World) (x : Nat) (hx : x < LB) : LS (w.alloc (.cells #[.int .u64 (x : Int)] 23)) (some ⟨w.heap.size, 0, none⟩) 1 1 :=
  lsNew (w := w) _ rfl [x] rfl (Dig.Below.cons hx (Dig.Below.nil _)) (by simp)
theorem ls2 (w : World) (x y : Nat) (hx : x < LB) (hy : y < LB) : LS (w.alloc (.cells #[.int .u64 (x : Int), .int .u64 (y : Int)] 23)) (some ⟨w.heap.size, 0, none⟩) 2 2 :=
  lsNew (w := w) _ rfl [x, y] rfl (Dig.Below.cons hx (Dig.Below.cons hy (Dig.Below.nil _))) (by simp)
theorem ls4 (w : World) (a b d : Nat) (v : Value) (q : Nat) (hq : q ≤ 3) (ha : a < LB) (hb : b < LB) (hd : d < LB) :
    LS (w.alloc (.cells #[.int .u64 (a : Int), .int .u64 (b : Int), .int .u64 (d : Int), v] 23)) (some ⟨w.heap.size, 0, none⟩) q 4 := by
  refine ⟨[a, b, d].take q, ⟨?_, fun _ => ⟨_, rfl, by simp, fun j u hu => ?_⟩⟩, Dig.Below.take (Dig.Below.cons ha (Dig.Below.cons hb (Dig.Below.cons hd (Dig.Below.nil _)))) q, by omega, by unfold maxLen; omega⟩
  · simp [ints]; omega
  · match q, hq, j with
    | 1, _, 0 => simp [ints] at hu; subst hu; simp [Addr.add]
    | 2, _, 0 => simp [ints] at hu; subst hu; simp [Addr.add]
    | 2, _, 1 => simp [ints] at hu; subst hu; simp [Addr.add]
    | 3, _, 0 => simp [ints] at hu; subst hu; simp [Addr.add]
    | 3, _, 1 => simp [ints] at hu; subst hu; simp [Addr.add]
    | 3, _, 2 => simp [ints] at hu; subst hu; simp [Addr.add]
    | 0, _, j => simp [ints] at hu
    | 1, _, j + 1 => simp [ints] at hu
    | 2, _, j + 2 => simp [ints] at hu
    | 3, _, j + 3 => simp [ints] at hu
theorem Grow.ls {W w : World} {v : Value} {L : List Nat} (h : Grow W 23 .u64 v L w) (hb : Dig.Below LB L) : ∃ A c, v = .slice A L.length c ∧ LS w A L.length c := by
  obtain ⟨A, c, rfl, hown⟩ := h.parts
  exact ⟨A, c, rfl, L, hown.row, hb, hown.cap.1, hown.cap.2⟩

theorem ownGrow {A : Option Addr} {n c : Nat} {w : World} (h : LS w A n c) (hn : n ≤ 1000) :
    Calls Tryd.prog 10 #[.slice A n c] w fun e w' => ∃ v L, e = .returned v ∧ Dig.Below LB L ∧ L.length = n ∧ Grow w 23 .u64 v L w' := by
  obtain ⟨l, h1, h2, h3, h4⟩ := h
  have hl := h1.len
  subst hl
  refine (lawOwn A _ c l w h1 (by omega)).mono ?_
  rintro e w' ⟨A', c', rfl, hown, hb⟩
  exact ⟨_, l, rfl, h2, rfl, hown, hb⟩

/-- An append of one limb, the operation being wanted. -/
theorem wpList_push_g {P : Program} {ops : Array Oper} {rest : List Oper} {o : Oper} {a : Act} {Q : Exit → Act → World → Prop} (hw : Region.wanted o (yielded ops a.tmps) = true) (s x : Operand) (t : TypeId)
    (ho : o.op = .call { callee := .builtin .append, args := #[s, x], argTypes := #[t, t] }) (e : TypeId) (k : IntKind) (bytes : Nat) (ht : P.underlying t = some (.slice e))
    (hi : (P.info? e).map (fun i => (i.zero, i.size, i.bytes)) = some (some (.int k 0), 1, bytes)) (hby : bytes ≤ 8)
    (v : Value) (L : List Nat) (y : Nat) (w0 wr : World) (hs : a.eval s = v) (hg : Grow w0 e k v L wr) (hx : a.eval x = .slice (some ⟨wr.heap.size, 0, none⟩) 1 1) (hlen : L.length ≤ 1000000000000)
    (h : ∀ v' w1, Grow w0 e k v' (L ++ [y]) w1 → wpList P ops Q rest (a.put o.dst v') w1) : wpList P ops Q (o :: rest) a (wr.alloc (.cells #[.int k (y : Int)] e)) := by
  have hp := wpList_push (P := P) (ops := ops) (rest := rest) (o := { o with guard := none }) (a := a) (Q := Q) rfl s x t ho e k bytes ht hi hby v L y (y : Int) w0 wr hs hg hx rfl hlen h
  unfold wpList at hp ⊢
  rw [hw]
  exact hp

/-- Twenty-two texts in a block. -/
def Strs (w : World) (G : Nat) : Prop := ∀ i, i < 22 → ∃ s : ByteArray, w.cell? ⟨G, i, none⟩ = some (.string s) ∧ G < w.heap.size
theorem Strs.below {w w' : World} {G : Nat} (h : Strs w G) (hb : Below w.heap.size w w') : Strs w' G := by
  intro i hi
  obtain ⟨s, h1, h2⟩ := h i hi
  exact ⟨s, (hb.cell (p := ⟨G, i, none⟩) h2).trans h1, Nat.lt_of_lt_of_le h2 hb.size⟩
def isStr : Value → Bool
  | .string _ => true
  | _ => false
theorem strs_new (w : World) (cs : Array Value) (T : TypeId) (h : (cs.size == 22 && cs.all isStr) = true) : Strs (w.alloc (.cells cs T)) w.heap.size := by
  simp only [Bool.and_eq_true, beq_iff_eq, Array.all_eq_true] at h
  intro i hi
  have hv := h.2 i (by omega)
  have hc : (w.alloc (.cells cs T)).cell? ⟨w.heap.size, i, none⟩ = cs[i]? := World.cell?_alloc_mark w cs T (0, 0) i
  rw [Array.getElem?_eq_getElem (by omega)] at hc
  generalize cs[i]'(by omega) = v at hc hv
  cases v <;> simp [isStr] at hv
  exact ⟨_, hc, by simp⟩

set_option maxRecDepth 100000 in
set_option maxHeartbeats 8000000 in
theorem known_any (w : World) (hL : Laid w) : Calls Tryd.prog 7 #[] w fun e w' => e = .returned (.bool true) ∧ Below w.heap.size w w' := by
  go_enter Tryd.func7, Tryd.ntmps7
  go_wp2_with fail
  go_loopw [1, 2, 3] (fun iv _ _ wr => ∃ i : Nat, i ≤ 64 ∧ iv = .int .i64 i ∧ KW w wr) (fun iv _ _ _ => 64 - (intOf iv).toNat)
  case atStart => exact ⟨0, by omega, rfl, hL, Below.refl _ _⟩
  case round =>
    obtain ⟨i, hi, rfl, hk⟩ := hrel
    by_cases hlt : i < 64
    · have hi1 : (i : Int) < 64 := by omega
      obtain ⟨x, hx, hxl⟩ := wrap64 ((2 : Int) ^ i)
      obtain ⟨x1, hx1, hxl1⟩ := wrap64 ((x : Int) - 1)
      obtain ⟨x2, hx2, hxl2⟩ := wrap64 ((x : Int) + 1)
      obtain ⟨x3, hx3, hxl3⟩ := wrap64 ((x : Int) + (i : Int))
      have hwi : IntKind.u64.wrap (i : Int) = (i : Int) := by rw [IntKind.wrap_u64]; omega
      obtain ⟨m1, hm1⟩ : ∃ m1, IntKind.i64.wrap (x : Int) = m1 := ⟨_, rfl⟩
      obtain ⟨m2, hm2⟩ : ∃ m2, IntKind.i64.wrap (x1 : Int) = m2 := ⟨_, rfl⟩
      obtain ⟨m3, hm3⟩ : ∃ m3, IntKind.i64.wrap (-m1) = m3 := ⟨_, rfl⟩
      obtain ⟨q, hq, hq3⟩ : ∃ q, i % 5 % 4 = q ∧ q ≤ 3 := ⟨_, rfl, by omega⟩
      have hb1 := Lib.hid (hm1 ▸ wrapI64 (x : Int))
      have hb2 := Lib.hid (hm2 ▸ wrapI64 (x1 : Int))
      have hb3 := Lib.hid (hm3 ▸ wrapI64 (-m1))
      have hls := fun v => ls4 wr x x1 x2 v q hq3 hxl hxl1 hxl2
      have hkW := fun v => hk.step (below_new wr (.cells #[.int .u64 (x : Int), .int .u64 (x1 : Int), .int .u64 (x2 : Int), v] 23))
      go_wp2_with fail
      generalize bits BinOp.xor IntKind.u64 IntKind.u64.max (x : Int) = b4 at *
      have hls4 := hls (.int .u64 b4)
      have hk4 := hkW (.int .u64 b4)
      clear hls hkW hk
      generalize (wr.alloc (.cells #[.int .u64 (x : Int), .int .u64 (x1 : Int), .int .u64 (x2 : Int), .int .u64 b4] 23)) = W1 at *
      refine (anyDivides (x : Int) (by omega) (by unfold LB at hxl; omega) hk4.laid hls4).mono ?_
      rintro e w1 ⟨rfl, kb1⟩
      have hk1 := hk4.step kb1
      have hl1 := hls4.below kb1
      clear hk4 hls4 kb1
      go_wp2_with fail
      refine (ownGrow hl1 (by omega)).mono ?_
      rintro e w2 ⟨v2, L2, rfl, hL2, hL2n, hg2⟩
      have hk2 := hk1.step hg2.2
      have hl2 := hl1.below hg2.2
      go_wp2_with (first
        | (at_builtin
           refine wpList_push_g ?hw (.tmp 34) (.tmp 36) _ rfl 23 .u64 8 Tryd.underlying22 info_u64 (by omega) v2 L2 x w1 _ rfl hg2 rfl (by omega) ?_
           case hw => first | rfl | kernel_rfl | go_simp
           intro v3 w3 hg3
           obtain ⟨A3, c3, rfl, hl3⟩ := hg3.ls (hL2.append (Dig.Below.cons hxl (Dig.Below.nil _)))))
      have hl3' : LS w3 A3 (q + 1) c3 := by simpa [hL2n] using hl3
      have hk3 := hk1.step hg3.2
      have hl3l := hl1.below hg3.2
      clear hl3 hg2 hg3 hk1 hk2 hl1 hl2
      refine (anyDivides (x1 : Int) (by omega) (by unfold LB at hxl1; omega) hk3.laid hl3').mono ?_
      rintro e w4 ⟨rfl, kb4⟩
      have hk4 := hk3.step kb4
      have hl4 := hl3l.below kb4
      clear hk3 hl3l hl3' kb4
      go_wp2_with fail
      refine (ownGrow hl4 (by omega)).mono ?_
      rintro e w5 ⟨v5, L5, rfl, hL5, hL5n, hg5⟩
      go_wp2_with (first
        | (at_builtin
           refine wpList_push_g ?hw (.tmp 45) (.tmp 47) _ rfl 23 .u64 8 Tryd.underlying22 info_u64 (by omega) v5 L5 x w4 _ rfl hg5 rfl (by omega) ?_
           case hw => first | rfl | kernel_rfl | go_simp
           intro v6 w6 hg6
           obtain ⟨A6, c6, rfl, hl6⟩ := hg6.ls (hL5.append (Dig.Below.cons hxl (Dig.Below.nil _)))))
      have hl6' : LS w6 A6 (q + 1) c6 := by simpa [hL5n] using hl6
      have hk6 := hk4.step hg6.2
      have hl6l := hl4.below hg6.2
      clear hl6 hg5 hg6 hk4 hl4
      refine (anyTexts m1 hb1.out.1 hb1.out.2 hk6.laid hl6').mono ?_
      rintro e w7 ⟨rfl, kb7⟩
      have hk7 := hk6.step kb7
      have hl7 := hl6l.below kb7
      clear hk6 hl6l hl6' kb7
      have hlA := (ls2 w7 x x hxl hxl).below (below_new _ (.cells #[.int .u64 (x1 : Int), .int .u64 (x : Int)] 23))
      have hlB := ls2 (w7.alloc (.cells #[.int .u64 (x : Int), .int .u64 (x : Int)] 23)) x1 x hxl1 hxl
      have hbW := (below_new w7 (.cells #[.int .u64 (x : Int), .int .u64 (x : Int)] 23)).alloc (by simp) (.cells #[.int .u64 (x1 : Int), .int .u64 (x : Int)] 23)
      have hk7' := hk7.step hbW
      have hl7' := hl7.below hbW
      simp only [szA] at hlB
      go_wp2_with fail
      refine (anyBack (x3 : Int) m2 _ (by omega) (by unfold LB at hxl3; omega) hb2.out.1 hb2.out.2 hk7'.laid hlA hlB).mono ?_
      rintro e w8 ⟨rfl, kb8⟩
      have hk8 := hk7'.step kb8
      have hl8 := hl7'.below kb8
      clear hlA hlB hbW hk7' hl7' hk7 hl7 kb8
      have hl8' := hl8.below (below_new w8 (.cells #[.int .u64 (x : Int)] 23))
      have hlC := ls1 w8 x hxl
      have hk8' := hk8.step (below_new w8 (.cells #[.int .u64 (x : Int)] 23))
      go_wp2_with fail
      refine (anyBack 10 m3 _ (by omega) (by omega) hb3.out.1 hb3.out.2 hk8'.laid hl8' hlC).mono ?_
      rintro e w9 ⟨rfl, kb9⟩
      have hk9 := Lib.hid (hk8'.step kb9)
      clear hl8 hl8' hlC hk8 hk8' kb9
      go_wp2_with fail
      first
      | exact ⟨⟨i + 1, by omega, by go_num, hk9.out⟩, by simp [intOf]; omega⟩
      | (refine ⟨?_, by simp [intOf]; omega⟩; (repeat apply Exists.intro); exact ⟨⟨i + 1, by omega, by go_num, hk9.out⟩, rfl⟩)
    · obtain rfl : i = 64 := by omega
      go_wp2_with fail
      obtain ⟨wa, rfl⟩ : ∃ wa : World, wa = wr := ⟨_, rfl⟩
      go_loopw [4, 5, 6] (fun tv iv _ wr => ∃ i x : Nat, i ≤ 20 ∧ x < LB ∧ iv = .int .i64 i ∧ tv = .int .u64 x ∧ KW w wr) (fun _ iv _ _ => 20 - (intOf iv).toNat)
      case atStart => exact ⟨0, 1, by omega, by unfold LB; omega, rfl, rfl, hk⟩
      case round =>
        obtain ⟨j, x, hj, hxl, rfl, rfl, hk⟩ := hrel
        by_cases hlt : j < 20
        · have hj1 : (j : Int) < 20 := by omega
          go_wp2_with fail
          obtain ⟨wb, rfl⟩ : ∃ wb : World, wb = wr := ⟨_, rfl⟩
          go_loopw [6] (fun kv wr => ∃ k : Nat, k ≤ 3 ∧ kv = .int .u64 k ∧ KW w wr) (fun kv _ => 3 - (intOf kv).toNat)
          case atStart => exact ⟨0, by omega, rfl, hk⟩
          case round =>
            obtain ⟨k, hk3, rfl, hkk⟩ := hrel
            clear hk
            by_cases hlk : k < 3
            · have hk1 : (k : Int) < 3 := by omega
              obtain ⟨y1, hy1, hyl1⟩ := wrap64 ((x : Int) + (k : Int))
              obtain ⟨y2, hy2, hyl2⟩ := wrap64 ((y1 : Int) - 1)
              have hkw : IntKind.u64.wrap ((k : Int) + 1) = (k : Int) + 1 := by rw [IntKind.wrap_u64]; omega
              obtain ⟨m1, hm1⟩ : ∃ m1, IntKind.i64.wrap (y2 : Int) = m1 := ⟨_, rfl⟩
              obtain ⟨m2, hm2⟩ : ∃ m2, IntKind.i64.wrap (x : Int) = m2 := ⟨_, rfl⟩
              obtain ⟨m3, hm3⟩ : ∃ m3, IntKind.i64.wrap (-m2) = m3 := ⟨_, rfl⟩
              have hb1 := Lib.hid (hm1 ▸ wrapI64 (y2 : Int))
              have hb3 := Lib.hid (hm3 ▸ wrapI64 (-m2))
              have hkA := hkk.step (below_new wr (.cells #[.int .u64 (y2 : Int)] 23))
              have hlA := ls1 wr y2 hyl2
              go_wp2_with fail
              refine (anyTexts m1 hb1.out.1 hb1.out.2 hkA.laid hlA).mono ?_
              rintro e w1 ⟨rfl, kb1⟩
              have hkB := hkA.step kb1
              clear hkA hlA kb1 hkk
              have s1 := (ls1 w1 y2 hyl2)
              have s2 := (ls1 (w1.alloc (.cells #[.int .u64 (y2 : Int)] 23)) x hxl)
              have s3 := (ls1 ((w1.alloc (.cells #[.int .u64 (y2 : Int)] 23)).alloc (.cells #[.int .u64 (x : Int)] 23)) x hxl)
              have b2 := below_new (w1.alloc (.cells #[.int .u64 (y2 : Int)] 23)) (.cells #[.int .u64 (x : Int)] 23)
              have b3 := below_new ((w1.alloc (.cells #[.int .u64 (y2 : Int)] 23)).alloc (.cells #[.int .u64 (x : Int)] 23)) (.cells #[.int .u64 (x : Int)] 23)
              have s1' := (s1.below b2).below b3
              have s2' := s2.below b3
              have hkC := ((hkB.step (below_new w1 (.cells #[.int .u64 (y2 : Int)] 23))).step b2).step b3
              have hof : Calls Tryd.prog 11 #[.slice (some ⟨w1.heap.size + 1 + 1, 0, none⟩) 1 1] (((w1.alloc (.cells #[.int .u64 (y2 : Int)] 23)).alloc (.cells #[.int .u64 (x : Int)] 23)).alloc (.cells #[.int .u64 (x : Int)] 23)) _ :=
                refOf _ 1 1 [x] _ (row_of_cell .u64 _ (w1.heap.size + 1 + 1) x (by simp) (by simp [go_sem])) (Dig.Below.cons hxl (Dig.Below.nil _)) (by omega)
              simp only [szA] at s2'
              clear s1 s2 s3 b2 b3 hkB
              go_wp2_with fail
              generalize (((w1.alloc (.cells #[.int .u64 (y2 : Int)] 23)).alloc (.cells #[.int .u64 (x : Int)] 23)).alloc (.cells #[.int .u64 (x : Int)] 23)) = W at *
              refine hof.mono ?_
              rintro e w2 ⟨A2, n2, c2, rfl, hnum2, hn2, kb2⟩
              have hkD := hkC.step kb2
              have s1D := s1'.below kb2
              have s2D := s2'.below kb2
              clear hkC s1' s2' hof kb2
              have hT := refText _ hnum2 (by omega)
              go_wp2_with fail
              refine hT.mono ?_
              rintro e w3 ⟨rfl, kb3⟩
              have hkE := hkD.step kb3
              have s1E := s1D.below kb3
              have s2E := s2D.below kb3
              clear hkD s1D s2D kb3 hT hnum2
              go_wp2_with fail
              refine (anyBack (x : Int) m3 _ (by omega) (by unfold LB at hxl; omega) hb3.out.1 hb3.out.2 hkE.laid s1E s2E).mono ?_
              rintro e w4 ⟨rfl, kb4⟩
              have hkF := Lib.hid (hkE.step kb4)
              clear hkE s1E s2E kb4
              go_wp2_with fail
              first
              | exact ⟨⟨k + 1, by omega, by go_num, hkF.out⟩, by simp [intOf]; omega⟩
              | (refine ⟨?_, by simp [intOf]; omega⟩; (repeat apply Exists.intro); exact ⟨⟨k + 1, by omega, by go_num, hkF.out⟩, rfl⟩)
            · obtain rfl : k = 3 := by omega
              obtain ⟨x', hx', hxl'⟩ := wrap64 ((x : Int) * 10)
              go_wp2_with fail
              first
              | exact ⟨⟨j + 1, x', by omega, hxl', by go_num, rfl, hkk⟩, by simp [intOf]; omega⟩
              | (refine ⟨?_, by simp [intOf]; omega⟩; (repeat apply Exists.intro); exact ⟨⟨j + 1, x', by omega, hxl', by go_num, rfl, hkk⟩, rfl⟩)
        · obtain rfl : j = 20 := by omega
          go_wp2_with fail
          obtain ⟨wc, rfl⟩ : ∃ wc : World, wc = wr := ⟨_, rfl⟩
          go_loopw [8, 9] (fun iv _ wr => ∃ i : Nat, i ≤ 22 ∧ iv = .int .i64 i ∧ Strs wr wc.heap.size ∧ KW w wr) (fun iv _ _ => 22 - (intOf iv).toNat)
          case atStart => exact ⟨0, by omega, rfl, strs_new _ _ _ (by kernel_rfl), hk.step (below_new _ _)⟩
          case round =>
            obtain ⟨i, hi, rfl, hst, hkr⟩ := hrel
            clear hk
            generalize wc.heap.size = G at *
            by_cases hlt : i < 22
            · have hi1 : (i : Int) < 22 := by omega
              go_wp2_with fail
              obtain ⟨wd, rfl⟩ : ∃ wd : World, wd = wr := ⟨_, rfl⟩
              go_loopw [9] (fun zv wr => ∃ z : Int, -1 ≤ z ∧ z ≤ 4 ∧ zv = .int .i64 z ∧ Strs wr G ∧ KW w wr) (fun zv _ => (4 - intOf zv).toNat)
              case atStart => exact ⟨-1, by omega, by omega, rfl, hst, hkr⟩
              case round =>
                obtain ⟨z, hz1, hz2, rfl, hst, hkr⟩ := hrel
                by_cases hz : z < 4
                · obtain ⟨s, hc, hG⟩ := hst i hlt
                  have hwz : IntKind.i64.wrap (z + 1) = z + 1 := by rw [IntKind.wrap_i64]; omega
                  obtain ⟨y, hy, hyl⟩ := wrap64 (z + 1)
                  have hwi : IntKind.u64.wrap (i : Int) = (i : Int) := by rw [IntKind.wrap_u64]; omega
                  have hst' := Lib.hid hst
                  clear hst
                  go_wp2_with fail
                  refine (anyReads s z hkr.laid).mono ?_
                  rintro e w1 ⟨rfl, kb1⟩
                  have hst1 := hst'.out.below kb1
                  have hk1 := hkr.step kb1
                  have hcA := (kb1.cell (p := ⟨G, i, none⟩) hG).trans hc
                  have hGA : G < w1.heap.size := Nat.lt_of_lt_of_le hG kb1.size
                  have hcB : (w1.alloc (.cells #[.int .u64 (i : Int)] 23)).cell? ⟨G, i, none⟩ = some (.string s) := (World.cell?_alloc_past _ _ _ hGA).trans hcA
                  have hk2 := hk1.step (below_new w1 (.cells #[.int .u64 (i : Int)] 23))
                  have hst2 := Lib.hid (hst1.below (below_new w1 (.cells #[.int .u64 (i : Int)] 23)))
                  have hl2 := ls1 w1 i (by unfold LB; omega)
                  clear hst' hst1 hk1 hc hG kb1 hkr
                  go_wp2_with fail
                  refine (anyBack (y : Int) z _ (by omega) (by unfold LB at hyl; omega) (by omega) (by omega) hk2.laid (lsNil _) hl2).mono ?_
                  rintro e w2 ⟨rfl, kb2⟩
                  have hst3 := Lib.hid (hst2.out.below kb2)
                  have hk3 := Lib.hid (hk2.step kb2)
                  clear hst2 hk2 hl2 kb2 hcA hcB
                  go_wp2_with fail
                  first
                  | exact ⟨⟨z + 1, by omega, by omega, rfl, hst3.out, hk3.out⟩, by simp [intOf]; omega⟩
                  | (refine ⟨?_, by simp [intOf]; omega⟩; (repeat apply Exists.intro); exact ⟨⟨z + 1, by omega, by omega, rfl, hst3.out, hk3.out⟩, rfl⟩)
                · obtain rfl : z = 4 := by omega
                  have hst' := Lib.hid hst
                  clear hst
                  go_wp2_with fail
                  first
                  | exact ⟨⟨i + 1, by omega, by go_num, hst'.out, hkr⟩, by simp [intOf]; omega⟩
                  | (refine ⟨?_, by simp [intOf]; omega⟩; (repeat apply Exists.intro); exact ⟨⟨i + 1, by omega, by go_num, hst'.out, hkr⟩, rfl⟩)
            · obtain rfl : i = 22 := by omega
              clear hst
              go_wp2_with fail
              refine (anyDivides 0 (by omega) (by omega) hkr.laid (lsNil _)).mono ?_
              rintro e w1 ⟨rfl, kb1⟩
              have hk1 := hkr.step kb1
              go_wp2_with fail
              refine (anyTexts (-9223372036854775808) (by omega) (by omega) hk1.laid (lsNil _)).mono ?_
              rintro e w2 ⟨rfl, kb2⟩
              have hk2 := hk1.step kb2
              go_wp2_with fail
              refine (works_any _ hk2.laid).mono ?_
              rintro e w3 ⟨rfl, kb3⟩
              have hk3 := hk2.step kb3
              go_wp2_with fail
              go_ret
              exact ⟨rfl, hk3.below⟩
end Go.Proofs.YthcglobehoaocaaDoor
