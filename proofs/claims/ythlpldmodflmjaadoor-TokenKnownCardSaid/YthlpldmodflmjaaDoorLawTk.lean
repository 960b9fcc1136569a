/- The law TokenKnown. -/
import Derived.Test.YthlpldmodflmjaaDoorLawTe
import Derived.Test.YthlpldmodflmjaaDoorLawTf
import Derived.Test.YthlpldmodflmjaaDoorTok5
import Derived.Test.YthlpldmodflmjaaDoorPosD
namespace Go.Proofs.YthlpldmodflmjaaDoor
open Go.RowKit

theorem anyCutsT (s : ByteArray) (z : Int) (w : World) (hL : LaidR w) (hs : s.size ≤ 1000) (hz : in64 z) :
    Calls Tryd.prog 3 #[.string s, .int .i64 z] w fun e w' => e = .returned (.bool true) ∧ Below w.heap.size w w' := by
  by_cases h : s.size ≤ 400
  · exact cuts_any tokNext_ tokAll_ s z w hL h hz
  · exact cuts_long tokAll_ s z w hL (by omega) (by unfold maxLen; omega)
theorem anyBackT (s : ByteArray) (A : Option Addr) (m c0 : Nat) (l : List TokV) (w : World) (hL : LaidR w) (hs : s.size ≤ 400) (hr : RowT w A m l) (hm : m ≤ 30) (hl : ∀ t ∈ l, t.x.length ≤ maxLen ∧ in64 t.k ∧ in64 t.n) :
    Calls Tryd.prog 5 #[.string s, .slice A m c0] w fun e w' => e = .returned (.bool true) ∧ Below w.heap.size w w' :=
  back_tok tokRight_ tokSame_ tokJoin_ tokAll_ posPlace_ s A m c0 l w hL hs hr hm hl
theorem anyTellsT (A : Option Addr) (n c0 : Nat) (r : List TokV) (ak : Int) (ax : List UInt8) (an al ac bk : Int) (bx : List UInt8) (bn bl bc : Int) (w : World) (hL : LaidR w)
    (hr : RowT w A n r) (hn : n ≤ 30) (hax : ax.length ≤ 60) (hbx : bx.length ≤ 60) (hak : in64 ak) (han : in64 an) (hbk : in64 bk) (hbn : in64 bn) (hlx : ∀ t ∈ r, t.x.length ≤ maxLen) :
    Calls Tryd.prog 4 #[.slice A n c0, .agg #[.int .i64 ak, .string ⟨ax.toArray⟩, .int .i64 an, .int .i64 al, .int .i64 ac], .agg #[.int .i64 bk, .string ⟨bx.toArray⟩, .int .i64 bn, .int .i64 bl, .int .i64 bc]] w fun e w' => e = .returned (.bool true) ∧ Below w.heap.size w w' :=
  tells_tok tokRight_ tokSame_ tokJoin_ tokAll_ A n c0 r ak ax an al ac bk bx bn bl bc w hL hr hn hax hbx hak han hbk hbn hlx

theorem sz1 (c : UInt8) : (⟨#[c]⟩ : ByteArray).size = 1 := rfl
theorem str_of_byte (W : World) (g : Nat) (ch : UInt8) (h : W.cell? ⟨g, 0, none⟩ = some (.int .u8 ((ch.toNat : Nat) : Int))) :
    (Go.convert 63 9 (.slice (some ⟨g, 0, none⟩) 1 1)).run Tryd.prog W = .ok (.string ⟨#[ch]⟩) W := by
  refine run_convert_bytes_back (P := Tryd.prog) W 63 9 5 ⟨g, 0, none⟩ 1 [ch] Tryd.underlying63 Tryd.underlying5 Tryd.underlying9 (fun j hj => ?_)
  match j, hj with
  | 0, _ => simpa [Addr.add] using h
theorem RowT.new (W : World) (l : List TokV) (T : TypeId) : RowT (W.alloc (.cells (tcells l).toArray T)) (some ⟨W.heap.size, 0, none⟩) l.length l :=
  ⟨rfl, by rw [tcells_len], fun _ => ⟨_, rfl, by simp, fun j u hu => by
    rw [show (⟨W.heap.size, 0, none⟩ : Addr).add j = ⟨W.heap.size, j, none⟩ by cases j <;> simp [Addr.add], cell_of_row _ _ j (tcells l).toArray T (0, 0) (heap_alloc_new W _)]
    simpa using hu⟩⟩
theorem RowT.one (W : World) (k : Int) (x : List UInt8) (n l c : Int) (T : TypeId) : RowT (W.alloc (.cells #[.int .i64 k, .string ⟨x.toArray⟩, .int .i64 n, .int .i64 l, .int .i64 c] T)) (some ⟨W.heap.size, 0, none⟩) 1 [⟨k, x, n, l, c⟩] := RowT.new W [⟨k, x, n, l, c⟩] T
theorem TabS.step {W W' : World} {g : Nat} {l : List (List UInt8)} (h : TabS W g l) (hb : Below W.heap.size W W') : TabS W' g l := fun j x hx => cst5 hb (h j x hx)

/-- The words of the statement. -/
def knW : List (List UInt8) := [[], [97], [95, 57], [97, 32, 98], [109, 97, 105, 110, 123, 120, 61, 49, 59, 125], [48], [48, 48], [57, 50, 50, 51, 51, 55, 50, 48, 51, 54, 56, 53, 52, 55, 55, 53, 56, 48, 55], [57, 50, 50, 51, 51, 55, 50, 48, 51, 54, 56, 53, 52, 55, 55, 53, 56, 48, 56], [57, 50, 50, 51, 51, 55, 50, 48, 51, 54, 56, 53, 52, 55, 55, 53, 56, 48, 57], [57, 50, 50, 51, 51, 55, 50, 48, 51, 54, 56, 53, 52, 55, 55, 53, 56, 48, 56, 48], [124, 124, 124], [38, 38, 38], [60, 60, 61], [62, 62, 62], [33, 61, 61], [97, 35, 98, 10, 99], [35], [97, 95, 118, 101, 114, 121, 95, 108, 111, 110, 103, 95, 119, 111, 114, 100, 95, 111, 102, 95, 116, 104, 105, 114, 116, 121, 95, 116, 119, 111, 95, 98, 95], [97, 95, 118, 101, 114, 121, 95, 108, 111, 110, 103, 95, 119, 111, 114, 100, 95, 111, 102, 95, 116, 104, 105, 114, 116, 121, 95, 116, 119, 111, 95, 95], [49, 97], [97, 49, 32, 49], [120, 13, 10, 9, 121]]
theorem knW_len : ∀ x ∈ knW, x.length ≤ 40 := by decide

set_option maxHeartbeats 8000000 in
set_option maxRecDepth 100000 in
theorem known_tok (w : World) (hL : LaidR w) : Calls Tryd.prog 6 #[] w fun e w' => e = .returned (.bool true) ∧ Below w.heap.size w w' := by
  have hq1 := Lib.hid anyCutsT
  have hq2 := Lib.hid anyBackT
  have hq3 := Lib.hid anyTellsT
  have ht0 := TabS.new w knW 9
  have hb0 := bnew5 w (.cells (knW.map fun x => Value.string ⟨x.toArray⟩).toArray 9)
  have hk0 := Lib.hid (And.intro hb0 ht0)
  have hL0 := Lib.hid hL
  have hcut : (⟨#[97, 95, 118, 101, 114, 121, 95, 108, 111, 110, 103, 95, 119, 111, 114, 100, 95, 111, 102, 95, 116, 104, 105, 114, 116, 121, 95, 116, 119, 111, 95, 95, 98]⟩ : ByteArray).extract 0 32 = ⟨#[97, 95, 118, 101, 114, 121, 95, 108, 111, 110, 103, 95, 119, 111, 114, 100, 95, 111, 102, 95, 116, 104, 105, 114, 116, 121, 95, 116, 119, 111, 95, 95]⟩ := by decide
  clear hL ht0 hb0
  go_enter Tryd.func6, Tryd.ntmps6
  go_wp2_with fail
  clear hcut
  go_loopw [2] (fun v W => ∃ i : Nat, i ≤ 23 ∧ v = .int .i64 i ∧ Hid (Below w.heap.size w W ∧ TabS W w.heap.size knW)) (fun v _ => 23 - (intOf v).toNat)
  case atStart => exact ⟨0, by omega, rfl, hk0⟩
  case round =>
    obtain ⟨i, hi, rfl, hst⟩ := hrel
    clear hk0
    by_cases hlt : i < 23
    · have hlt' : (i : Int) < 23 := by omega
      obtain ⟨x, hx⟩ : ∃ x, knW[i]? = some x := ⟨_, List.getElem?_eq_getElem (show i < knW.length from hlt)⟩
      have hxl := knW_len x (List.mem_of_getElem? hx)
      have hxs : (⟨x.toArray⟩ : ByteArray).size = x.length := by simp [ByteArray.size]
      have HX := Lib.hid hx
      have HXL := Lib.hid hxl
      obtain ⟨m, hm⟩ : ∃ m, m = i % 5 := ⟨_, rfl⟩
      have u1 : (i : Int).tmod 5 = (m : Int) := by rw [Int.tmod_eq_emod_of_nonneg (by omega), hm]; omega
      have hm5 : m < 5 := by omega
      have u2 : IntKind.i64.wrap (m : Int) = m := IntWalk.i64_in _ (by omega)
      have r1 := fun (W : World) hL => hq1.out ⟨x.toArray⟩ i W hL (by omega) (by unfold in64; omega)
      have r2 := fun (W : World) hL hr => hq2.out ⟨x.toArray⟩ (some ⟨W.heap.size, 0, none⟩) 1 1 [⟨m, x, 0, 0, 0⟩] (W.alloc (.cells #[.int .i64 m, .string ⟨x.toArray⟩, .int .i64 0, .int .i64 0, .int .i64 0] 34)) hL (by omega) hr (by omega) (fun t ht => by
        have : t = ⟨m, x, 0, 0, 0⟩ := by simpa using ht
        subst this
        exact ⟨by show x.length ≤ maxLen; unfold maxLen; omega, by show in64 m; unfold in64; omega, by show in64 0; unfold in64; omega⟩)
      have hn0 := fun (W : World) => Lib.hid (RowT.one W m x 0 0 0 34)
      have c0 := hst.out.2 i x hx
      clear hm hx hxl hxs hlt
      go_wp2_with fail
      have hd := (Below.refl wr.heap.size wr).drew
      have hst1 := Lib.hid (And.intro (bth5 hst.out.1 hd) (hst.out.2.step hd))
      have s0 := hst1.out.2 i x HX.out
      have hLd := Lib.hid (hL0.out.below hst1.out.1)
      clear hd hst
      go_region_held3 (fun w' => w'.cell? ⟨w.heap.size, i, none⟩ = some (.string ⟨x.toArray⟩)) (first | with_reducible exact s0 | with_reducible exact s1 | with_reducible exact s2 | with_reducible exact s3)
        (first
          | (go_at_call 3
             with_reducible refine (r1 wr.drew hLd.out).mono ?_
             rintro e w1 ⟨rfl, hb1⟩
             have hst2 := Lib.hid (And.intro (bth5 hst1.out.1 hb1) (hst1.out.2.step hb1))
             have s1 := hst2.out.2 i x HX.out
             have hbn := bnew5 w1 (.cells #[.int .i64 m, .string ⟨x.toArray⟩, .int .i64 0, .int .i64 0, .int .i64 0] 34)
             have hst3 := Lib.hid (And.intro (bth5 hst2.out.1 hbn) (hst2.out.2.step hbn))
             have s2 := hst3.out.2 i x HX.out
             have q2 := r2 w1 (hL0.out.below hst3.out.1) (hn0 w1).out)
          | (go_at_call 5
             with_reducible refine q2.mono ?_
             rintro e w2 ⟨rfl, hb2⟩
             have hst4 := Lib.hid (And.intro (bth5 hst3.out.1 hb2) (hst3.out.2.step hb2))
             have s3 := hst4.out.2 i x HX.out))
      clear r1 r2 hn0 s0 s1 s2 s3 hst1 hst2 hst3 hLd hb1 hb2 hbn q2 u1 u2 hm5 c0
      go_wp2_with fail
      go_loopw [3] (fun v W => ∃ k : Nat, k ≤ 23 ∧ v = .int .i64 k ∧ Hid (Below w.heap.size w W ∧ TabS W w.heap.size knW)) (fun v _ => 23 - (intOf v).toNat)
      case atStart => exact ⟨0, by omega, rfl, hst4⟩
      case round =>
        obtain ⟨k, hk, rfl, hst⟩ := hrel
        clear hst4
        by_cases hkl : k < 23
        · have hkl' : (k : Int) < 23 := by omega
          obtain ⟨y, hy⟩ : ∃ y, knW[k]? = some y := ⟨_, List.getElem?_eq_getElem (show k < knW.length from hkl)⟩
          have hyl := knW_len y (List.mem_of_getElem? hy)
          have hxl := HXL.out
          have hys : (⟨y.toArray⟩ : ByteArray).size = y.length := by simp [ByteArray.size]
          have hxs : (⟨x.toArray⟩ : ByteArray).size = x.length := by simp [ByteArray.size]
          have hzs : ((⟨x.toArray⟩ : ByteArray) ++ ⟨y.toArray⟩).size ≤ 1000 := by rw [ByteArray.size_append]; omega
          have HY := Lib.hid hy
          have r1 := fun (W : World) hL => hq1.out ((⟨x.toArray⟩ : ByteArray) ++ ⟨y.toArray⟩) ((k : Int) - 2) W hL hzs (by unfold in64; omega)
          have u3 : IntKind.i64.wrap ((k : Int) - 2) = (k : Int) - 2 := IntWalk.i64_in _ (by omega)
          have f1 : (9223372036854775807 < x.length + y.length) = False := by simp; omega
          have c0 := hst.out.2 i x HX.out
          have c1 := hst.out.2 k y HY.out
          clear hy hyl hxl hys hxs hzs hkl
          go_wp2_with fail
          have hd := (Below.refl wr.heap.size wr).drew
          have hst1 := Lib.hid (And.intro (bth5 hst.out.1 hd) (hst.out.2.step hd))
          have s0 := And.intro (hst1.out.2 i x HX.out) (hst1.out.2 k y HY.out)
          have hLd := Lib.hid (hL0.out.below hst1.out.1)
          clear hd hst
          go_region_held3 (fun w' => w'.cell? ⟨w.heap.size, i, none⟩ = some (.string ⟨x.toArray⟩) ∧ w'.cell? ⟨w.heap.size, k, none⟩ = some (.string ⟨y.toArray⟩)) (first | with_reducible exact s0 | with_reducible exact s1)
            (first
              | (go_at_call 3
                 with_reducible refine (r1 wr.drew hLd.out).mono ?_
                 rintro e w1 ⟨rfl, hb1⟩
                 have hst2 := Lib.hid (And.intro (bth5 hst1.out.1 hb1) (hst1.out.2.step hb1))
                 have s1 := And.intro (hst2.out.2 i x HX.out) (hst2.out.2 k y HY.out)))
          clear r1 s0 s1 hst1 hLd hb1 u3 f1 c0 c1
          go_wp2_with fail
          exact ⟨⟨k + 1, by omega, by go_num, hst2⟩, by simp [intOf]; omega⟩
        · have hk23 : (k : Int) = 23 := by omega
          rw [hk23]
          clear hk23 hk hkl
          go_wp2_with fail
          go_loopw [4] (fun v W => ∃ z : Int, -1 ≤ z ∧ z ≤ 5 ∧ v = .int .i64 z ∧ Hid (Below w.heap.size w W ∧ TabS W w.heap.size knW)) (fun v _ => (5 - intOf v).toNat)
          case atStart => exact ⟨-1, by omega, by omega, rfl, hst⟩
          case round =>
            obtain ⟨z, hz0, hz1, rfl, hst⟩ := hrel
            by_cases hzl : z < 5
            · obtain ⟨m, hm⟩ : ∃ m, m = i % 2 := ⟨_, rfl⟩
              have u1 : (i : Int).tmod 2 = (m : Int) := by rw [Int.tmod_eq_emod_of_nonneg (by omega), hm]; omega
              have hm2 : m < 2 := by omega
              have u2 : IntKind.i64.wrap (m : Int) = m := IntWalk.i64_in _ (by omega)
              have hxl := HXL.out
              have r3 := fun (W : World) hL hr => hq3.out (some ⟨W.heap.size, 0, none⟩) 3 3 [⟨z, x, 0, 0, 0⟩, ⟨3, [], 0, 0, 0⟩, ⟨0, [98], 0, 0, 0⟩] z x m 0 0 1 [53] 5 0 0 (W.alloc (.cells #[.int .i64 z, .string ⟨x.toArray⟩, .int .i64 0, .int .i64 0, .int .i64 0, .int .i64 3, .string ⟨#[]⟩, .int .i64 0, .int .i64 0, .int .i64 0, .int .i64 0, .string ⟨#[98]⟩, .int .i64 0, .int .i64 0, .int .i64 0] 34)).drew hL hr (by omega) (by omega) (by decide) (by unfold in64; omega) (by unfold in64; omega) (by unfold in64; omega) (by unfold in64; omega) (fun t ht => by
                have hxl := HXL.out
                simp only [List.mem_cons, List.not_mem_nil, or_false] at ht
                rcases ht with rfl | rfl | rfl
                · show x.length ≤ maxLen; unfold maxLen; omega
                · show 0 ≤ maxLen; omega
                · show 1 ≤ maxLen; unfold maxLen; omega)
              have hn3 := Lib.hid ((RowT.new wr [⟨z, x, 0, 0, 0⟩, ⟨3, [], 0, 0, 0⟩, ⟨0, [98], 0, 0, 0⟩] 34).below (Below.refl _ _).drew)
              have c0 := hst.out.2 i x HX.out
              clear hm hxl
              go_wp2_with fail
              have hd := (Below.refl wr.heap.size wr).drew
              have hbn := (bnew5 wr (.cells #[.int .i64 z, .string ⟨x.toArray⟩, .int .i64 0, .int .i64 0, .int .i64 0, .int .i64 3, .string ⟨#[]⟩, .int .i64 0, .int .i64 0, .int .i64 0, .int .i64 0, .string ⟨#[98]⟩, .int .i64 0, .int .i64 0, .int .i64 0] 34)).drew
              have s0 := (hst.out.2.step hd) i x HX.out
              have hst1 := Lib.hid (And.intro (bth5 hst.out.1 hbn) (hst.out.2.step hbn))
              have s1 := hst1.out.2 i x HX.out
              have q3 := r3 wr (hL0.out.below hst1.out.1) hn3.out
              clear hd hbn hst
              go_region_held3 (fun w' => w'.cell? ⟨w.heap.size, i, none⟩ = some (.string ⟨x.toArray⟩)) (first | with_reducible exact s0 | with_reducible exact s1 | with_reducible exact s2)
                (first
                  | (go_at_call 4
                     with_reducible refine q3.mono ?_
                     rintro e w1 ⟨rfl, hb1⟩
                     have hst2 := Lib.hid (And.intro (bth5 hst1.out.1 hb1) (hst1.out.2.step hb1))
                     have s2 := hst2.out.2 i x HX.out))
              clear r3 q3 s0 s1 s2 hst1 hn3 hb1 u1 u2 hm2 c0
              go_wp2_with fail
              exact ⟨⟨z + 1, by omega, by omega, by go_num, hst2⟩, by simp [intOf]; omega⟩
            · obtain rfl : z = 5 := by omega
              go_wp2_with fail
              exact ⟨⟨i + 1, by omega, by go_num, hst⟩, by simp [intOf]; omega⟩
    · have hi23 : (i : Int) = 23 := by omega
      rw [hi23]
      clear hi23 hi hlt
      have hk1 := Lib.hid hst.out.1
      clear hst
      go_wp2_with fail
      go_loopw [5] (fun v W => ∃ c : Nat, c ≤ 256 ∧ v = .int .i64 c ∧ Hid (Below w.heap.size w W)) (fun v _ => 256 - (intOf v).toNat)
      case atStart => exact ⟨0, by omega, rfl, hk1⟩
      case round =>
        obtain ⟨c, hc, rfl, hk⟩ := hrel
        clear hk1
        by_cases hlt : c < 256
        · have hlt' : (c : Int) < 256 := by omega
          have u1 : IntKind.u8.wrap (c : Int) = (c : Int) := by rw [IntKind.wrap_u8]; omega
          obtain ⟨ch, hch⟩ : ∃ ch : UInt8, (c : Int) = ((ch.toNat : Nat) : Int) := ⟨UInt8.ofNat c, by rw [UInt8.toNat_ofNat_of_lt' (by simpa using hlt)]⟩
          have hconv := str_of_byte (wr.alloc (.cells #[.int .u8 c] 5)) wr.heap.size ch (by rw [cell_of_row _ _ 0 #[.int .u8 c] 5 (0, 0) (heap_alloc_new wr _), hch]; rfl)
          have hbn := bnew5 wr (.cells #[.int .u8 c] 5)
          have hk1 := Lib.hid (bth5 hk.out hbn)
          have r1 := fun (W : World) hL => hq1.out ⟨#[ch]⟩ 0 W hL (by rw [sz1]; omega) (by unfold in64; omega)
          have r2 := fun (W : World) hL => hq1.out (⟨#[97]⟩ ++ ⟨#[ch]⟩ ++ ⟨#[49]⟩) 1 W hL (by simp only [ByteArray.size_append, sz1]; omega) (by unfold in64; omega)
          have r3 := fun (W : World) hL => hq2.out (⟨#[60]⟩ ++ ⟨#[ch]⟩ ++ ⟨#[32]⟩ ++ ⟨#[ch]⟩) none 0 0 [] W hL (by simp only [ByteArray.size_append, sz1]; omega) ⟨rfl, Reads.none_⟩ (by omega) (fun t ht => by cases ht)
          clear hch hbn hk hlt
          go_wp2_with fail
          refine (r1 _ (hL0.out.below hk1.out)).mono ?_
          rintro e w1 ⟨rfl, hb1⟩
          have hk2 := Lib.hid (bth5 hk1.out hb1)
          clear hconv hb1 hk1 r1
          go_wp2_with fail
          refine (r2 _ (hL0.out.below hk2.out)).mono ?_
          rintro e w2 ⟨rfl, hb2⟩
          have hk3 := Lib.hid (bth5 hk2.out hb2)
          clear hb2 hk2 r2
          go_wp2_with fail
          refine (r3 _ (hL0.out.below hk3.out)).mono ?_
          rintro e w3 ⟨rfl, hb3⟩
          have hk4 := Lib.hid (bth5 hk3.out hb3)
          clear hb3 hk3 r3
          go_wp2_with fail
          exact ⟨⟨c + 1, by omega, by go_num, hk4⟩, by simp [intOf]; omega⟩
        · have hc256 : (c : Int) = 256 := by omega
          rw [hc256]
          clear hc256 hc hlt
          have hbn := bnew5 wr (.cells #[.int .i64 1, .string ⟨#[57, 50, 50, 51, 51, 55, 50, 48, 51, 54, 56, 53, 52, 55, 55, 53, 56, 48, 56]⟩, .int .i64 (-9223372036854775808), .int .i64 0, .int .i64 0] 34)
          have hk1 := Lib.hid (bth5 hk.out hbn)
          have r1 := fun (W : World) hL => tokRight_ 1 [57, 50, 50, 51, 51, 55, 50, 48, 51, 54, 56, 53, 52, 55, 55, 53, 56, 48, 56] (-9223372036854775808) 0 0 W hL (by decide) (by unfold in64; omega) (by unfold in64; omega)
          rw [show rightV ⟨1, [57, 50, 50, 51, 51, 55, 50, 48, 51, 54, 56, 53, 52, 55, 55, 53, 56, 48, 56], -9223372036854775808, 0, 0⟩ = true by kernel_rfl] at r1
          have r2 := fun (W : World) hL => hq1.out ⟨#[97]⟩ 4611686018427387904 W hL (by rw [sz1]; omega) (by unfold in64; omega)
          have r3 := fun (W : World) hL => hq1.out ⟨#[97]⟩ (-9223372036854775808) W hL (by rw [sz1]; omega) (by unfold in64; omega)
          have r4 := fun (W : World) hL => works_tok tokAll_ W hL
          clear hbn hk
          go_wp2_with fail
          refine (r1 _ (hL0.out.below hk1.out)).mono ?_
          rintro e w1 ⟨rfl, hb1⟩
          have hk2 := Lib.hid (bth5 hk1.out hb1)
          clear hb1 hk1 r1
          go_wp2_with fail
          refine (r2 _ (hL0.out.below hk2.out)).mono ?_
          rintro e w2 ⟨rfl, hb2⟩
          have hk3 := Lib.hid (bth5 hk2.out hb2)
          clear hb2 hk2 r2
          go_wp2_with fail
          refine (r3 _ (hL0.out.below hk3.out)).mono ?_
          rintro e w3 ⟨rfl, hb3⟩
          have hk4 := Lib.hid (bth5 hk3.out hb3)
          clear hb3 hk3 r3
          go_wp2_with fail
          refine (r4 _ (hL0.out.below hk4.out)).mono ?_
          rintro e w4 ⟨rfl, hb4⟩
          have hk5 := Lib.hid (bth5 hk4.out hb4)
          clear hb4 hk4 r4
          go_wp2_with fail
          go_ret
          exact ⟨by first | rfl | simp, hk5.out⟩
end Go.Proofs.YthlpldmodflmjaaDoor
