/- The law TokenTells, over the interface. -/
import Derived.Test.YthlpldmodflmjaaDoorLawTb
namespace Go.Proofs.YthlpldmodflmjaaDoor
open Go.RowKit

/-- What TokenTells keeps. -/
structure KD (w : World) (ga gb : Nat) (ba bb : List Value) (A : Option Addr) (r : List TokV) (W : World) : Prop where
  a : Box W ga ba
  b : Box W gb bb
  row : RowT W A r.length r
  below : Below w.heap.size w W
theorem KD.step {w W W' : World} {ga gb : Nat} {ba bb : List Value} {A : Option Addr} {r : List TokV} (k : KD w ga gb ba bb A r W) (hb : Below W.heap.size W W') : KD w ga gb ba bb A r W' :=
  ⟨k.a.step hb, k.b.step hb, k.row.below hb, bth5 k.below hb⟩
/-- And the tokens as the reference has them. -/
structure KE (w : World) (ga gb : Nat) (ba bb : List Value) (A A' : Option Addr) (r : List TokV) (W : World) : Prop where
  a : Box W ga ba
  b : Box W gb bb
  row : RowT W A r.length r
  ref : RowT W A' r.length r
  below : Below w.heap.size w W
theorem KE.step {w W W' : World} {ga gb : Nat} {ba bb : List Value} {A A' : Option Addr} {r : List TokV} (k : KE w ga gb ba bb A A' r W) (hb : Below W.heap.size W W') : KE w ga gb ba bb A A' r W' :=
  ⟨k.a.step hb, k.b.step hb, k.row.below hb, k.ref.below hb, bth5 k.below hb⟩

set_option maxHeartbeats 8000000 in
set_option maxRecDepth 100000 in
theorem tells_tok (hRi : TokRightC) (hSa : TokSameC) (hJo : TokJoinC) (hAl : TokAllC) (A : Option Addr) (n c0 : Nat) (r : List TokV) (ak : Int) (ax : List UInt8) (an al ac bk : Int) (bx : List UInt8) (bn bl bc : Int) (w : World) (hL : LaidR w)
    (hr : RowT w A n r) (hn : n ≤ 30) (hax : ax.length ≤ 60) (hbx : bx.length ≤ 60) (hak : in64 ak) (han : in64 an) (hbk : in64 bk) (hbn : in64 bn) (hlx : ∀ t ∈ r, t.x.length ≤ maxLen) :
    Calls Tryd.prog 4 #[.slice A n c0, .agg #[.int .i64 ak, .string ⟨ax.toArray⟩, .int .i64 an, .int .i64 al, .int .i64 ac], .agg #[.int .i64 bk, .string ⟨bx.toArray⟩, .int .i64 bn, .int .i64 bl, .int .i64 bc]] w fun e w' => e = .returned (.bool true) ∧ Below w.heap.size w w' := by
  have hrl := hr.1
  subst hrl
  have hL0 := Lib.hid hL
  have QW := Lib.hid (fun W h => works_tok hAl W h)
  have qra := Lib.hid (fun W h => hRi ak ax an al ac W h (by omega) hak han)
  have qrb := Lib.hid (fun W h => hRi bk bx bn bl bc W h (by omega) hbk hbn)
  have qsa := Lib.hid (fun W => refRight ak ax an al ac (by omega) W)
  have qsb := Lib.hid (fun W => refRight bk bx bn bl bc (by omega) W)
  have qfa := Lib.hid (fun W => lawRefT ak ⟨ax.toArray⟩ an al ac W)
  have qfb := Lib.hid (fun W => lawRefT bk ⟨bx.toArray⟩ bn bl bc W)
  have qm := Lib.hid (fun W => hSa ak ax an al ac bk bx bn bl bc W)
  have qn := Lib.hid (fun W => refSame ak ax an al ac bk bx bn bl bc W)
  have hka := Box.new w [.int .i64 ak, .string ⟨ax.toArray⟩, .int .i64 an, .int .i64 al, .int .i64 ac] 34
  have hba := bnew5 w (.cells #[.int .i64 ak, .string ⟨ax.toArray⟩, .int .i64 an, .int .i64 al, .int .i64 ac] 34)
  have hbb := bnew5 (w.alloc (.cells #[.int .i64 ak, .string ⟨ax.toArray⟩, .int .i64 an, .int .i64 al, .int .i64 ac] 34)) (.cells #[.int .i64 bk, .string ⟨bx.toArray⟩, .int .i64 bn, .int .i64 bl, .int .i64 bc] 34)
  have hkb := Box.new (w.alloc (.cells #[.int .i64 ak, .string ⟨ax.toArray⟩, .int .i64 an, .int .i64 al, .int .i64 ac] 34)) [.int .i64 bk, .string ⟨bx.toArray⟩, .int .i64 bn, .int .i64 bl, .int .i64 bc] 34
  rw [show (w.alloc (.cells #[.int .i64 ak, .string ⟨ax.toArray⟩, .int .i64 an, .int .i64 al, .int .i64 ac] 34)).heap.size = w.heap.size + 1 by simp] at hkb
  have hk0 : Hid (KD w w.heap.size (w.heap.size + 1) [.int .i64 ak, .string ⟨ax.toArray⟩, .int .i64 an, .int .i64 al, .int .i64 ac] [.int .i64 bk, .string ⟨bx.toArray⟩, .int .i64 bn, .int .i64 bl, .int .i64 bc] A r ((w.alloc (.cells #[.int .i64 ak, .string ⟨ax.toArray⟩, .int .i64 an, .int .i64 al, .int .i64 ac] 34)).alloc (.cells #[.int .i64 bk, .string ⟨bx.toArray⟩, .int .i64 bn, .int .i64 bl, .int .i64 bc] 34))) :=
    ⟨hka.step hbb, hkb, (hr.below hba).below hbb, bth5 hba hbb⟩
  have hn30 : ¬ ((30 : Int) < r.length) := by omega
  have ha60 : ¬ ((60 : Int) < (ax.length : Int)) := by omega
  have hb60 : ¬ ((60 : Int) < (bx.length : Int)) := by omega
  clear hL hRi hSa hAl hka hkb hba hbb
  have HN := Lib.hid hn
  have HJ := Lib.hid hJo
  have HL := Lib.hid hlx
  clear hax hbx hak han hbk hbn hn hr hJo hlx
  go_enter Tryd.func4, Tryd.ntmps4
  go_wp2_with fail
  go_loopw [7] (fun v W => ∃ i : Nat, i ≤ r.length ∧ v = .int .i64 i ∧ (∀ j t, j < i → r[j]? = some t → t.x.length ≤ 60) ∧ Hid (KD w w.heap.size (w.heap.size + 1) [.int .i64 ak, .string ⟨ax.toArray⟩, .int .i64 an, .int .i64 al, .int .i64 ac] [.int .i64 bk, .string ⟨bx.toArray⟩, .int .i64 bn, .int .i64 bl, .int .i64 bc] A r W)) (fun v _ => r.length - (intOf v).toNat)
  case atStart => exact ⟨0, by omega, rfl, fun j t h => absurd h (by omega), hk0⟩
  case round =>
    obtain ⟨i, hi, rfl, hal, hk⟩ := hrel
    clear hk0
    by_cases hlt : i < r.length
    · have hlt' : (i : Int) < r.length := by omega
      obtain ⟨ad, ⟨tk, tx, tn, tl, tc⟩, rfl, hri, hel⟩ := hk.out.row.el hlt
      have hx1 := hel.2.1
      simp only at hx1
      have hsx : ((⟨tx.toArray⟩ : ByteArray).size : Int) = tx.length := rfl
      have hmx := HL.out _ (List.mem_of_getElem? hri)
      simp only at hmx
      generalize (⟨tx.toArray⟩ : ByteArray) = xs at *
      clear hel
      by_cases h60 : tx.length ≤ 60
      · have h60' : ¬ (60 : Int) < xs.size := by omega
        have hal2 : Hid (∀ j t, j < i + 1 → r[j]? = some t → t.x.length ≤ 60) := fun j t hj ht => by
          by_cases e : j = i
          · subst e
            rw [hri] at ht
            injection ht with ht
            subst ht
            exact h60
          · exact hal j t (by omega) ht
        clear hal hri hmx hsx
        go_wp2_with fail
        exact ⟨⟨i + 1, by omega, by go_num, hal2.out, hk⟩, by simp [intOf]; omega⟩
      · have h60' : (60 : Int) < xs.size := by omega
        have hbl := Lib.hid hk.out.below
        clear hal hri hk hsx
        go_wp2_with fail
        refine (QW.out wr (hL0.out.below hbl.out)).mono ?_
        rintro e w1 ⟨rfl, hb1⟩
        go_wp2_with fail
        go_ret
        exact ⟨by first | rfl | simp, bth5 hbl.out hb1⟩
    · have hin : i = r.length := by omega
      have hlt' : ¬ (i : Int) < r.length := by omega
      have hall : Hid (∀ t ∈ r, t.x.length ≤ 60) := fun t ht => by
        obtain ⟨j, hj, e⟩ := List.mem_iff_getElem.1 ht
        exact hal j t (by omega) (by rw [List.getElem?_eq_getElem hj, e])
      have qr := lawRefs A r.length c0 r wr hk.out.row (by have := HN.out; omega)
      clear hal hin hlt
      go_wp2_with fail
      refine qr.mono ?_
      rintro e W ⟨v, rfl, hgr⟩
      obtain ⟨A', c', rfl, hrr⟩ := hgr.row
      have hk1 := hk.out.step hgr.2
      have hk0 : Hid (KE w w.heap.size (w.heap.size + 1) [.int .i64 ak, .string ⟨ax.toArray⟩, .int .i64 an, .int .i64 al, .int .i64 ac] [.int .i64 bk, .string ⟨bx.toArray⟩, .int .i64 bn, .int .i64 bl, .int .i64 bc] A A' r W.drew) := KE.step ⟨hk1.a, hk1.b, hk1.row, hrr, hk1.below⟩ (Below.refl _ _).drew
      have hn100 := HN.out
      have qj := Lib.hid (fun (W : World) (h : RowT W A r.length r) => HJ.out A r.length c0 r W h (by omega) (fun t ht => Nat.le_trans (hall.out t ht) (by omega)))
      have qk : Hid (∀ (W : World) (h : RowT W A' r.length r), Calls Tryd.prog 21 #[.slice A' r.length c'] W fun e w' => e = .returned (.string ⟨(joinV r).toArray⟩) ∧ Below W.heap.size W w') := fun (W : World) (h : RowT W A' r.length r) => (refJoin A' r.length c' r W h (by omega) (fun t ht => Nat.le_trans (hall.out t ht) (by omega))).mono (fun e w' hh => ⟨hh.1, hh.2 ▸ Below.refl _ _⟩)
      have qz := Lib.hid (fun (W : World) (h : RowT W A r.length r) (h' : RowT W A' r.length r) => lawSameT A A' r.length c0 c' r W h h' (by omega))
      clear hk1 hk hgr hrr qr HJ hn100 hall
      generalize rightV ⟨ak, ax, an, al, ac⟩ = ra at *
      generalize rightV ⟨bk, bx, bn, bl, bc⟩ = rb at *
      generalize sameV ⟨ak, ax, an, al, ac⟩ ⟨bk, bx, bn, bl, bc⟩ = sab at *
      generalize (⟨(joinV r).toArray⟩ : ByteArray) = jr at *
      go_wp2_with fail
      generalize w.heap.size = ga at *
      obtain ⟨gb, hgb⟩ : ∃ gb, gb = ga + 1 := ⟨_, rfl⟩
      rw [← hgb] at hk0
      rw [← hgb]
      clear hgb
      have s0 : W.drew.cell? ⟨ga, 0, none⟩ = some (.int .i64 ak) ∧ W.drew.cell? ⟨ga, 1, none⟩ = some (.string ⟨ax.toArray⟩) ∧ W.drew.cell? ⟨ga, 2, none⟩ = some (.int .i64 an) ∧ W.drew.cell? ⟨ga, 3, none⟩ = some (.int .i64 al) ∧ W.drew.cell? ⟨ga, 4, none⟩ = some (.int .i64 ac) ∧ W.drew.cell? ⟨gb, 0, none⟩ = some (.int .i64 bk) ∧ W.drew.cell? ⟨gb, 1, none⟩ = some (.string ⟨bx.toArray⟩) ∧ W.drew.cell? ⟨gb, 2, none⟩ = some (.int .i64 bn) ∧ W.drew.cell? ⟨gb, 3, none⟩ = some (.int .i64 bl) ∧ W.drew.cell? ⟨gb, 4, none⟩ = some (.int .i64 bc) := ⟨hk0.out.a.five.1, hk0.out.a.five.2.1, hk0.out.a.five.2.2.1, hk0.out.a.five.2.2.2.1, hk0.out.a.five.2.2.2.2, hk0.out.b.five.1, hk0.out.b.five.2.1, hk0.out.b.five.2.2.1, hk0.out.b.five.2.2.2.1, hk0.out.b.five.2.2.2.2⟩
      have hLd := Lib.hid (hL0.out.below hk0.out.below)
      go_region_held3 (fun w' => w'.cell? ⟨ga, 0, none⟩ = some (.int .i64 ak) ∧ w'.cell? ⟨ga, 1, none⟩ = some (.string ⟨ax.toArray⟩) ∧ w'.cell? ⟨ga, 2, none⟩ = some (.int .i64 an) ∧ w'.cell? ⟨ga, 3, none⟩ = some (.int .i64 al) ∧ w'.cell? ⟨ga, 4, none⟩ = some (.int .i64 ac) ∧ w'.cell? ⟨gb, 0, none⟩ = some (.int .i64 bk) ∧ w'.cell? ⟨gb, 1, none⟩ = some (.string ⟨bx.toArray⟩) ∧ w'.cell? ⟨gb, 2, none⟩ = some (.int .i64 bn) ∧ w'.cell? ⟨gb, 3, none⟩ = some (.int .i64 bl) ∧ w'.cell? ⟨gb, 4, none⟩ = some (.int .i64 bc)) (first | with_reducible exact s0 | with_reducible exact s1 | with_reducible exact s2 | with_reducible exact s3 | with_reducible exact s4 | with_reducible exact s5 | with_reducible exact s6 | with_reducible exact s7 | with_reducible exact s8 | with_reducible exact s9 | with_reducible exact s10 | with_reducible exact s11 | with_reducible exact s12 | with_reducible exact s13 | with_reducible exact s14)
        (first
          | (go_at_call 16
             with_reducible refine (qra.out W.drew hLd.out).mono ?_
             rintro e u1 ⟨rfl, hb1⟩
             have hk1 := Lib.hid (hk0.out.step hb1)
             have s1 : u1.cell? ⟨ga, 0, none⟩ = some (.int .i64 ak) ∧ u1.cell? ⟨ga, 1, none⟩ = some (.string ⟨ax.toArray⟩) ∧ u1.cell? ⟨ga, 2, none⟩ = some (.int .i64 an) ∧ u1.cell? ⟨ga, 3, none⟩ = some (.int .i64 al) ∧ u1.cell? ⟨ga, 4, none⟩ = some (.int .i64 ac) ∧ u1.cell? ⟨gb, 0, none⟩ = some (.int .i64 bk) ∧ u1.cell? ⟨gb, 1, none⟩ = some (.string ⟨bx.toArray⟩) ∧ u1.cell? ⟨gb, 2, none⟩ = some (.int .i64 bn) ∧ u1.cell? ⟨gb, 3, none⟩ = some (.int .i64 bl) ∧ u1.cell? ⟨gb, 4, none⟩ = some (.int .i64 bc) := ⟨hk1.out.a.five.1, hk1.out.a.five.2.1, hk1.out.a.five.2.2.1, hk1.out.a.five.2.2.2.1, hk1.out.a.five.2.2.2.2, hk1.out.b.five.1, hk1.out.b.five.2.1, hk1.out.b.five.2.2.1, hk1.out.b.five.2.2.2.1, hk1.out.b.five.2.2.2.2⟩)
          | (go_at_call 11
             with_reducible refine (qfa.out u1).mono ?_
             rintro e u2 ⟨rfl, hb2⟩
             have hk2 := Lib.hid (hk1.out.step hb2)
             have s2 : u2.cell? ⟨ga, 0, none⟩ = some (.int .i64 ak) ∧ u2.cell? ⟨ga, 1, none⟩ = some (.string ⟨ax.toArray⟩) ∧ u2.cell? ⟨ga, 2, none⟩ = some (.int .i64 an) ∧ u2.cell? ⟨ga, 3, none⟩ = some (.int .i64 al) ∧ u2.cell? ⟨ga, 4, none⟩ = some (.int .i64 ac) ∧ u2.cell? ⟨gb, 0, none⟩ = some (.int .i64 bk) ∧ u2.cell? ⟨gb, 1, none⟩ = some (.string ⟨bx.toArray⟩) ∧ u2.cell? ⟨gb, 2, none⟩ = some (.int .i64 bn) ∧ u2.cell? ⟨gb, 3, none⟩ = some (.int .i64 bl) ∧ u2.cell? ⟨gb, 4, none⟩ = some (.int .i64 bc) := ⟨hk2.out.a.five.1, hk2.out.a.five.2.1, hk2.out.a.five.2.2.1, hk2.out.a.five.2.2.2.1, hk2.out.a.five.2.2.2.2, hk2.out.b.five.1, hk2.out.b.five.2.1, hk2.out.b.five.2.2.1, hk2.out.b.five.2.2.2.1, hk2.out.b.five.2.2.2.2⟩)
          | (go_at_call 17
             with_reducible refine (qsa.out u2).mono ?_
             rintro e u3 ⟨rfl, hb3⟩
             have hk3 := Lib.hid (hk2.out.step hb3)
             have s3 : u3.cell? ⟨ga, 0, none⟩ = some (.int .i64 ak) ∧ u3.cell? ⟨ga, 1, none⟩ = some (.string ⟨ax.toArray⟩) ∧ u3.cell? ⟨ga, 2, none⟩ = some (.int .i64 an) ∧ u3.cell? ⟨ga, 3, none⟩ = some (.int .i64 al) ∧ u3.cell? ⟨ga, 4, none⟩ = some (.int .i64 ac) ∧ u3.cell? ⟨gb, 0, none⟩ = some (.int .i64 bk) ∧ u3.cell? ⟨gb, 1, none⟩ = some (.string ⟨bx.toArray⟩) ∧ u3.cell? ⟨gb, 2, none⟩ = some (.int .i64 bn) ∧ u3.cell? ⟨gb, 3, none⟩ = some (.int .i64 bl) ∧ u3.cell? ⟨gb, 4, none⟩ = some (.int .i64 bc) := ⟨hk3.out.a.five.1, hk3.out.a.five.2.1, hk3.out.a.five.2.2.1, hk3.out.a.five.2.2.2.1, hk3.out.a.five.2.2.2.2, hk3.out.b.five.1, hk3.out.b.five.2.1, hk3.out.b.five.2.2.1, hk3.out.b.five.2.2.2.1, hk3.out.b.five.2.2.2.2⟩)
          | (go_at_call 16
             have hLr := hL0.out.below hk3.out.below
             with_reducible refine (qrb.out u3 hLr).mono ?_
             rintro e u4 ⟨rfl, hb4⟩
             have hk4 := Lib.hid (hk3.out.step hb4)
             have s4 : u4.cell? ⟨ga, 0, none⟩ = some (.int .i64 ak) ∧ u4.cell? ⟨ga, 1, none⟩ = some (.string ⟨ax.toArray⟩) ∧ u4.cell? ⟨ga, 2, none⟩ = some (.int .i64 an) ∧ u4.cell? ⟨ga, 3, none⟩ = some (.int .i64 al) ∧ u4.cell? ⟨ga, 4, none⟩ = some (.int .i64 ac) ∧ u4.cell? ⟨gb, 0, none⟩ = some (.int .i64 bk) ∧ u4.cell? ⟨gb, 1, none⟩ = some (.string ⟨bx.toArray⟩) ∧ u4.cell? ⟨gb, 2, none⟩ = some (.int .i64 bn) ∧ u4.cell? ⟨gb, 3, none⟩ = some (.int .i64 bl) ∧ u4.cell? ⟨gb, 4, none⟩ = some (.int .i64 bc) := ⟨hk4.out.a.five.1, hk4.out.a.five.2.1, hk4.out.a.five.2.2.1, hk4.out.a.five.2.2.2.1, hk4.out.a.five.2.2.2.2, hk4.out.b.five.1, hk4.out.b.five.2.1, hk4.out.b.five.2.2.1, hk4.out.b.five.2.2.2.1, hk4.out.b.five.2.2.2.2⟩)
          | (go_at_call 11
             with_reducible refine (qfb.out u4).mono ?_
             rintro e u5 ⟨rfl, hb5⟩
             have hk5 := Lib.hid (hk4.out.step hb5)
             have s5 : u5.cell? ⟨ga, 0, none⟩ = some (.int .i64 ak) ∧ u5.cell? ⟨ga, 1, none⟩ = some (.string ⟨ax.toArray⟩) ∧ u5.cell? ⟨ga, 2, none⟩ = some (.int .i64 an) ∧ u5.cell? ⟨ga, 3, none⟩ = some (.int .i64 al) ∧ u5.cell? ⟨ga, 4, none⟩ = some (.int .i64 ac) ∧ u5.cell? ⟨gb, 0, none⟩ = some (.int .i64 bk) ∧ u5.cell? ⟨gb, 1, none⟩ = some (.string ⟨bx.toArray⟩) ∧ u5.cell? ⟨gb, 2, none⟩ = some (.int .i64 bn) ∧ u5.cell? ⟨gb, 3, none⟩ = some (.int .i64 bl) ∧ u5.cell? ⟨gb, 4, none⟩ = some (.int .i64 bc) := ⟨hk5.out.a.five.1, hk5.out.a.five.2.1, hk5.out.a.five.2.2.1, hk5.out.a.five.2.2.2.1, hk5.out.a.five.2.2.2.2, hk5.out.b.five.1, hk5.out.b.five.2.1, hk5.out.b.five.2.2.1, hk5.out.b.five.2.2.2.1, hk5.out.b.five.2.2.2.2⟩)
          | (go_at_call 17
             with_reducible refine (qsb.out u5).mono ?_
             rintro e u6 ⟨rfl, hb6⟩
             have hk6 := Lib.hid (hk5.out.step hb6)
             have s6 : u6.cell? ⟨ga, 0, none⟩ = some (.int .i64 ak) ∧ u6.cell? ⟨ga, 1, none⟩ = some (.string ⟨ax.toArray⟩) ∧ u6.cell? ⟨ga, 2, none⟩ = some (.int .i64 an) ∧ u6.cell? ⟨ga, 3, none⟩ = some (.int .i64 al) ∧ u6.cell? ⟨ga, 4, none⟩ = some (.int .i64 ac) ∧ u6.cell? ⟨gb, 0, none⟩ = some (.int .i64 bk) ∧ u6.cell? ⟨gb, 1, none⟩ = some (.string ⟨bx.toArray⟩) ∧ u6.cell? ⟨gb, 2, none⟩ = some (.int .i64 bn) ∧ u6.cell? ⟨gb, 3, none⟩ = some (.int .i64 bl) ∧ u6.cell? ⟨gb, 4, none⟩ = some (.int .i64 bc) := ⟨hk6.out.a.five.1, hk6.out.a.five.2.1, hk6.out.a.five.2.2.1, hk6.out.a.five.2.2.2.1, hk6.out.a.five.2.2.2.2, hk6.out.b.five.1, hk6.out.b.five.2.1, hk6.out.b.five.2.2.1, hk6.out.b.five.2.2.2.1, hk6.out.b.five.2.2.2.2⟩)
          | (go_at_call 18
             with_reducible refine (qm.out u6).mono ?_
             rintro e u7 ⟨rfl, hb7⟩
             have hk7 := Lib.hid (hk6.out.step hb7)
             have s7 : u7.cell? ⟨ga, 0, none⟩ = some (.int .i64 ak) ∧ u7.cell? ⟨ga, 1, none⟩ = some (.string ⟨ax.toArray⟩) ∧ u7.cell? ⟨ga, 2, none⟩ = some (.int .i64 an) ∧ u7.cell? ⟨ga, 3, none⟩ = some (.int .i64 al) ∧ u7.cell? ⟨ga, 4, none⟩ = some (.int .i64 ac) ∧ u7.cell? ⟨gb, 0, none⟩ = some (.int .i64 bk) ∧ u7.cell? ⟨gb, 1, none⟩ = some (.string ⟨bx.toArray⟩) ∧ u7.cell? ⟨gb, 2, none⟩ = some (.int .i64 bn) ∧ u7.cell? ⟨gb, 3, none⟩ = some (.int .i64 bl) ∧ u7.cell? ⟨gb, 4, none⟩ = some (.int .i64 bc) := ⟨hk7.out.a.five.1, hk7.out.a.five.2.1, hk7.out.a.five.2.2.1, hk7.out.a.five.2.2.2.1, hk7.out.a.five.2.2.2.2, hk7.out.b.five.1, hk7.out.b.five.2.1, hk7.out.b.five.2.2.1, hk7.out.b.five.2.2.2.1, hk7.out.b.five.2.2.2.2⟩)
          | (go_at_call 11
             with_reducible refine (qfa.out u7).mono ?_
             rintro e u8 ⟨rfl, hb8⟩
             have hk8 := Lib.hid (hk7.out.step hb8)
             have s8 : u8.cell? ⟨ga, 0, none⟩ = some (.int .i64 ak) ∧ u8.cell? ⟨ga, 1, none⟩ = some (.string ⟨ax.toArray⟩) ∧ u8.cell? ⟨ga, 2, none⟩ = some (.int .i64 an) ∧ u8.cell? ⟨ga, 3, none⟩ = some (.int .i64 al) ∧ u8.cell? ⟨ga, 4, none⟩ = some (.int .i64 ac) ∧ u8.cell? ⟨gb, 0, none⟩ = some (.int .i64 bk) ∧ u8.cell? ⟨gb, 1, none⟩ = some (.string ⟨bx.toArray⟩) ∧ u8.cell? ⟨gb, 2, none⟩ = some (.int .i64 bn) ∧ u8.cell? ⟨gb, 3, none⟩ = some (.int .i64 bl) ∧ u8.cell? ⟨gb, 4, none⟩ = some (.int .i64 bc) := ⟨hk8.out.a.five.1, hk8.out.a.five.2.1, hk8.out.a.five.2.2.1, hk8.out.a.five.2.2.2.1, hk8.out.a.five.2.2.2.2, hk8.out.b.five.1, hk8.out.b.five.2.1, hk8.out.b.five.2.2.1, hk8.out.b.five.2.2.2.1, hk8.out.b.five.2.2.2.2⟩)
          | (go_at_call 11
             with_reducible refine (qfb.out u8).mono ?_
             rintro e u9 ⟨rfl, hb9⟩
             have hk9 := Lib.hid (hk8.out.step hb9)
             have s9 : u9.cell? ⟨ga, 0, none⟩ = some (.int .i64 ak) ∧ u9.cell? ⟨ga, 1, none⟩ = some (.string ⟨ax.toArray⟩) ∧ u9.cell? ⟨ga, 2, none⟩ = some (.int .i64 an) ∧ u9.cell? ⟨ga, 3, none⟩ = some (.int .i64 al) ∧ u9.cell? ⟨ga, 4, none⟩ = some (.int .i64 ac) ∧ u9.cell? ⟨gb, 0, none⟩ = some (.int .i64 bk) ∧ u9.cell? ⟨gb, 1, none⟩ = some (.string ⟨bx.toArray⟩) ∧ u9.cell? ⟨gb, 2, none⟩ = some (.int .i64 bn) ∧ u9.cell? ⟨gb, 3, none⟩ = some (.int .i64 bl) ∧ u9.cell? ⟨gb, 4, none⟩ = some (.int .i64 bc) := ⟨hk9.out.a.five.1, hk9.out.a.five.2.1, hk9.out.a.five.2.2.1, hk9.out.a.five.2.2.2.1, hk9.out.a.five.2.2.2.2, hk9.out.b.five.1, hk9.out.b.five.2.1, hk9.out.b.five.2.2.1, hk9.out.b.five.2.2.2.1, hk9.out.b.five.2.2.2.2⟩)
          | (go_at_call 19
             with_reducible refine (qn.out u9).mono ?_
             rintro e u10 ⟨rfl, hb10⟩
             have hk10 := Lib.hid (hk9.out.step hb10)
             have s10 : u10.cell? ⟨ga, 0, none⟩ = some (.int .i64 ak) ∧ u10.cell? ⟨ga, 1, none⟩ = some (.string ⟨ax.toArray⟩) ∧ u10.cell? ⟨ga, 2, none⟩ = some (.int .i64 an) ∧ u10.cell? ⟨ga, 3, none⟩ = some (.int .i64 al) ∧ u10.cell? ⟨ga, 4, none⟩ = some (.int .i64 ac) ∧ u10.cell? ⟨gb, 0, none⟩ = some (.int .i64 bk) ∧ u10.cell? ⟨gb, 1, none⟩ = some (.string ⟨bx.toArray⟩) ∧ u10.cell? ⟨gb, 2, none⟩ = some (.int .i64 bn) ∧ u10.cell? ⟨gb, 3, none⟩ = some (.int .i64 bl) ∧ u10.cell? ⟨gb, 4, none⟩ = some (.int .i64 bc) := ⟨hk10.out.a.five.1, hk10.out.a.five.2.1, hk10.out.a.five.2.2.1, hk10.out.a.five.2.2.2.1, hk10.out.a.five.2.2.2.2, hk10.out.b.five.1, hk10.out.b.five.2.1, hk10.out.b.five.2.2.1, hk10.out.b.five.2.2.2.1, hk10.out.b.five.2.2.2.2⟩)
          | (go_at_call 20
             with_reducible refine (qj.out u10 hk10.out.row).mono ?_
             rintro e u11 ⟨rfl, hb11⟩
             have hk11 := Lib.hid (hk10.out.step hb11)
             have s11 : u11.cell? ⟨ga, 0, none⟩ = some (.int .i64 ak) ∧ u11.cell? ⟨ga, 1, none⟩ = some (.string ⟨ax.toArray⟩) ∧ u11.cell? ⟨ga, 2, none⟩ = some (.int .i64 an) ∧ u11.cell? ⟨ga, 3, none⟩ = some (.int .i64 al) ∧ u11.cell? ⟨ga, 4, none⟩ = some (.int .i64 ac) ∧ u11.cell? ⟨gb, 0, none⟩ = some (.int .i64 bk) ∧ u11.cell? ⟨gb, 1, none⟩ = some (.string ⟨bx.toArray⟩) ∧ u11.cell? ⟨gb, 2, none⟩ = some (.int .i64 bn) ∧ u11.cell? ⟨gb, 3, none⟩ = some (.int .i64 bl) ∧ u11.cell? ⟨gb, 4, none⟩ = some (.int .i64 bc) := ⟨hk11.out.a.five.1, hk11.out.a.five.2.1, hk11.out.a.five.2.2.1, hk11.out.a.five.2.2.2.1, hk11.out.a.five.2.2.2.2, hk11.out.b.five.1, hk11.out.b.five.2.1, hk11.out.b.five.2.2.1, hk11.out.b.five.2.2.2.1, hk11.out.b.five.2.2.2.2⟩)
          | (go_at_call 21
             with_reducible refine (qk.out u11 hk11.out.ref).mono ?_
             rintro e u12 ⟨rfl, hb12⟩
             have hk12 := Lib.hid (hk11.out.step hb12)
             have s12 : u12.cell? ⟨ga, 0, none⟩ = some (.int .i64 ak) ∧ u12.cell? ⟨ga, 1, none⟩ = some (.string ⟨ax.toArray⟩) ∧ u12.cell? ⟨ga, 2, none⟩ = some (.int .i64 an) ∧ u12.cell? ⟨ga, 3, none⟩ = some (.int .i64 al) ∧ u12.cell? ⟨ga, 4, none⟩ = some (.int .i64 ac) ∧ u12.cell? ⟨gb, 0, none⟩ = some (.int .i64 bk) ∧ u12.cell? ⟨gb, 1, none⟩ = some (.string ⟨bx.toArray⟩) ∧ u12.cell? ⟨gb, 2, none⟩ = some (.int .i64 bn) ∧ u12.cell? ⟨gb, 3, none⟩ = some (.int .i64 bl) ∧ u12.cell? ⟨gb, 4, none⟩ = some (.int .i64 bc) := ⟨hk12.out.a.five.1, hk12.out.a.five.2.1, hk12.out.a.five.2.2.1, hk12.out.a.five.2.2.2.1, hk12.out.a.five.2.2.2.2, hk12.out.b.five.1, hk12.out.b.five.2.1, hk12.out.b.five.2.2.1, hk12.out.b.five.2.2.2.1, hk12.out.b.five.2.2.2.2⟩)
          | (go_at_call 14
             with_reducible refine (qz.out u12 hk12.out.row hk12.out.ref).mono ?_
             rintro e u13 ⟨rfl, hb13⟩
             have hk13 := Lib.hid (hk12.out.step hb13)
             have s13 : u13.cell? ⟨ga, 0, none⟩ = some (.int .i64 ak) ∧ u13.cell? ⟨ga, 1, none⟩ = some (.string ⟨ax.toArray⟩) ∧ u13.cell? ⟨ga, 2, none⟩ = some (.int .i64 an) ∧ u13.cell? ⟨ga, 3, none⟩ = some (.int .i64 al) ∧ u13.cell? ⟨ga, 4, none⟩ = some (.int .i64 ac) ∧ u13.cell? ⟨gb, 0, none⟩ = some (.int .i64 bk) ∧ u13.cell? ⟨gb, 1, none⟩ = some (.string ⟨bx.toArray⟩) ∧ u13.cell? ⟨gb, 2, none⟩ = some (.int .i64 bn) ∧ u13.cell? ⟨gb, 3, none⟩ = some (.int .i64 bl) ∧ u13.cell? ⟨gb, 4, none⟩ = some (.int .i64 bc) := ⟨hk13.out.a.five.1, hk13.out.a.five.2.1, hk13.out.a.five.2.2.1, hk13.out.a.five.2.2.2.1, hk13.out.a.five.2.2.2.2, hk13.out.b.five.1, hk13.out.b.five.2.1, hk13.out.b.five.2.2.1, hk13.out.b.five.2.2.2.1, hk13.out.b.five.2.2.2.2⟩)
          | (go_at_call 7
             have hLw := hL0.out.below hk13.out.below
             with_reducible refine (QW.out u13 hLw).mono ?_
             rintro e u14 ⟨rfl, hb14⟩
             have hk14 := Lib.hid (hk13.out.step hb14)
             have s14 : u14.cell? ⟨ga, 0, none⟩ = some (.int .i64 ak) ∧ u14.cell? ⟨ga, 1, none⟩ = some (.string ⟨ax.toArray⟩) ∧ u14.cell? ⟨ga, 2, none⟩ = some (.int .i64 an) ∧ u14.cell? ⟨ga, 3, none⟩ = some (.int .i64 al) ∧ u14.cell? ⟨ga, 4, none⟩ = some (.int .i64 ac) ∧ u14.cell? ⟨gb, 0, none⟩ = some (.int .i64 bk) ∧ u14.cell? ⟨gb, 1, none⟩ = some (.string ⟨bx.toArray⟩) ∧ u14.cell? ⟨gb, 2, none⟩ = some (.int .i64 bn) ∧ u14.cell? ⟨gb, 3, none⟩ = some (.int .i64 bl) ∧ u14.cell? ⟨gb, 4, none⟩ = some (.int .i64 bc) := ⟨hk14.out.a.five.1, hk14.out.a.five.2.1, hk14.out.a.five.2.2.1, hk14.out.a.five.2.2.2.1, hk14.out.a.five.2.2.2.2, hk14.out.b.five.1, hk14.out.b.five.2.1, hk14.out.b.five.2.2.1, hk14.out.b.five.2.2.2.1, hk14.out.b.five.2.2.2.2⟩))
      all_goals
        (go_wp2_with fail
         go_ret
         exact ⟨by first | rfl | simp, hk14.out.below⟩)

set_option maxHeartbeats 4000000 in
theorem tells_tok_long (hAl : TokAllC) (A : Option Addr) (n c0 : Nat) (ak : Int) (ax : List UInt8) (an al ac bk : Int) (bx : List UInt8) (bn bl bc : Int) (w : World) (hL : LaidR w)
    (h : 30 < n ∨ 60 < ax.length ∨ 60 < bx.length) (hnm : n ≤ maxLen) (ham : ax.length ≤ maxLen) (hbm : bx.length ≤ maxLen) :
    Calls Tryd.prog 4 #[.slice A n c0, .agg #[.int .i64 ak, .string ⟨ax.toArray⟩, .int .i64 an, .int .i64 al, .int .i64 ac], .agg #[.int .i64 bk, .string ⟨bx.toArray⟩, .int .i64 bn, .int .i64 bl, .int .i64 bc]] w fun e w' => e = .returned (.bool true) ∧ Below w.heap.size w w' := by
  unfold maxLen at hnm ham hbm
  have hba := bnew5 w (.cells #[.int .i64 ak, .string ⟨ax.toArray⟩, .int .i64 an, .int .i64 al, .int .i64 ac] 34)
  have hbb := bnew5 (w.alloc (.cells #[.int .i64 ak, .string ⟨ax.toArray⟩, .int .i64 an, .int .i64 al, .int .i64 ac] 34)) (.cells #[.int .i64 bk, .string ⟨bx.toArray⟩, .int .i64 bn, .int .i64 bl, .int .i64 bc] 34)
  have hbl := Lib.hid (bth5 hba hbb)
  have hq := works_tok hAl ((w.alloc (.cells #[.int .i64 ak, .string ⟨ax.toArray⟩, .int .i64 an, .int .i64 al, .int .i64 ac] 34)).alloc (.cells #[.int .i64 bk, .string ⟨bx.toArray⟩, .int .i64 bn, .int .i64 bl, .int .i64 bc] 34)) (hL.below (bth5 hba hbb))
  clear hba hbb hAl
  by_cases h1 : 30 < n
  · have h1' : (30 : Int) < n := by omega
    clear h
    go_enter Tryd.func4, Tryd.ntmps4
    go_wp2_with fail
    refine hq.mono ?_
    rintro e w1 ⟨rfl, hb1⟩
    go_wp2_with fail
    go_ret
    exact ⟨by first | rfl | simp, bth5 hbl.out hb1⟩
  · have h1' : ¬ (30 : Int) < n := by omega
    by_cases h2 : 60 < ax.length
    · have h2' : (60 : Int) < ax.length := by omega
      clear h
      go_enter Tryd.func4, Tryd.ntmps4
      go_wp2_with fail
      refine hq.mono ?_
      rintro e w1 ⟨rfl, hb1⟩
      go_wp2_with fail
      go_ret
      exact ⟨by first | rfl | simp, bth5 hbl.out hb1⟩
    · have h2' : ¬ (60 : Int) < ax.length := by omega
      have h3' : (60 : Int) < bx.length := by omega
      clear h
      go_enter Tryd.func4, Tryd.ntmps4
      go_wp2_with fail
      refine hq.mono ?_
      rintro e w1 ⟨rfl, hb1⟩
      go_wp2_with fail
      go_ret
      exact ⟨by first | rfl | simp, bth5 hbl.out hb1⟩
end Go.Proofs.YthlpldmodflmjaaDoor
