/- The law TokenBack, over the interface. -/
import Derived.Test.YthlpldmodflmjaaDoorTokR
import Derived.Test.YthlpldmodflmjaaDoorLawTc
import Derived.StillTailTactics
namespace Go.Proofs.YthlpldmodflmjaaDoor
open Go.RowKit

/-- What TokenBack's first half keeps: the argument's row, and the cut's. -/
structure KT (w : World) (A2 : Option Addr) (l : List TokV) (A : Option Addr) (r : List TokV) (W : World) : Prop where
  arg : RowT W A2 l.length l
  row : RowT W A r.length r
  below : Below w.heap.size w W
theorem KT.step {w W W' : World} {A2 A : Option Addr} {l r : List TokV} (k : KT w A2 l A r W) (hb : Below W.heap.size W W') : KT w A2 l A r W' := ⟨k.arg.below hb, k.row.below hb, bth5 k.below hb⟩
theorem wrap_in (n : Int) : in64 (IntKind.i64.wrap n) := by
  rw [IntKind.wrap_i64]
  unfold in64; omega
theorem span_gap (L : List UInt8) (p q : Nat) : span L p q = (L.drop p).take (q - p) := by
  unfold span
  rw [List.drop_take]
theorem chain_drop {L : List UInt8} {p : Nat} {r : List TokV} {i : Nat} {t : TokV} (hc : Chain L p (r.drop i)) (ht : r[i]? = some t) : ∃ q, AtT L p q t ∧ (t.k = 3 ↔ i + 1 = r.length) ∧ (i + 1 < r.length → Chain L (q + t.x.length) (r.drop (i + 1))) := by
  obtain ⟨hi, e⟩ := List.getElem?_eq_some_iff.1 ht
  rw [List.drop_eq_getElem_cons hi, e] at hc
  obtain ⟨q, h1, h2, h3⟩ := hc
  refine ⟨q, h1, h2.trans ⟨fun h => ?_, fun h => List.drop_eq_nil_of_le (by omega)⟩, fun h => h3 (fun e => ?_)⟩
  · have := List.drop_eq_nil_iff.1 h; omega
  · have := List.drop_eq_nil_iff.1 e; omega

/-- A token that is kept: short, right, and no End. -/
def goodT (t : TokV) : Bool := decide (t.x.length ≤ 60) && rightV t && decide (t.k ≠ 3)
theorem good_next {l : List TokV} {i : Nat} {t : TokV} (h : l[i]? = some t) : (l.take (i + 1)).filter goodT = (l.take i).filter goodT ++ if goodT t = true then [t] else [] := by
  rw [List.take_add_one, h, List.filter_append]
  cases hg : goodT t <;> simp [hg]
theorem good_no {l : List TokV} {i : Nat} {t : TokV} (h : l[i]? = some t) (hg : goodT t = false) : (l.take (i + 1)).filter goodT = (l.take i).filter goodT := by
  rw [good_next h, hg]; simp
theorem good_yes {l : List TokV} {i : Nat} {t : TokV} (h : l[i]? = some t) (hg : goodT t = true) : (l.take (i + 1)).filter goodT = (l.take i).filter goodT ++ [t] := by
  rw [good_next h, hg]; simp

set_option maxHeartbeats 16000000 in
set_option maxRecDepth 100000 in
theorem back_tok (hRi : TokRightC) (hSa : TokSameC) (hJo : TokJoinC) (hAl : TokAllC) (hPl : PosPlaceC) (s : ByteArray) (A2 : Option Addr) (m c0 : Nat) (l : List TokV) (w : World) (hL : LaidR w)
    (hs : s.size ≤ 400) (hr : RowT w A2 m l) (hm : m ≤ 30) (hlx : ∀ t ∈ l, t.x.length ≤ maxLen ∧ in64 t.k ∧ in64 t.n) :
    Calls Tryd.prog 5 #[.string s, .slice A2 m c0] w fun e w' => e = .returned (.bool true) ∧ Below w.heap.size w w' := by
  have hrl := hr.1
  subst hrl
  have QW := Lib.hid (fun W h => works_tok hAl W h)
  have hL0 := Lib.hid hL
  have hs4 : ¬ ((400 : Int) < s.size) := by omega
  have hm4 : ¬ ((30 : Int) < l.length) := by omega
  have qa := hAl s w hL (by omega)
  have hlen := allV_len s.data.toList
  have hsz := size_len_ s
  have hch := allV_chain s.data.toList
  generalize allV s.data.toList = R at *
  obtain ⟨r, f0, f1, f2⟩ := R
  simp only at qa hlen hch
  have HL := Lib.hid hlx
  have HR := Lib.hid hr
  have HP := Lib.hid hPl
  have HI := Lib.hid hRi
  have HS := Lib.hid hSa
  have HJ := Lib.hid hJo
  have HA := Lib.hid hAl
  have HM := Lib.hid hm
  clear hlx hr hPl hRi hSa hJo hAl hm hL
  go_enter Tryd.func5, Tryd.ntmps5
  go_wp2_with fail
  refine qa.mono ?_
  rintro e w1 ⟨v, rfl, A, c1, rfl, hr1, -, hb1⟩
  have hbn := bnew5 w1 (.cells #[.int .i64 f0, .int .i64 f1, .int .i64 f2] 36)
  have hk0 : Hid (KT w A2 l A r (w1.alloc (.cells #[.int .i64 f0, .int .i64 f1, .int .i64 f2] 36))) := ⟨(HR.out.below hb1).below hbn, hr1.below hbn, bth5 hb1 hbn⟩
  clear qa hr1 hb1 hbn
  by_cases he : f2 = 0
  · have hc0 := Lib.hid (hch he)
    subst he
    clear hch
    go_wp2_with fail
    generalize w1.alloc (.cells #[.int .i64 f0, .int .i64 f1, .int .i64 0] 36) = W1 at *
    go_loopw [7, 8] (fun pv v W => ∃ i p : Nat, i ≤ r.length ∧ v = .int .i64 i ∧ pv = .int .i64 p ∧ Hid ((i < r.length → Chain s.data.toList p (r.drop i)) ∧ (i = r.length → p = s.size)) ∧ Hid (KT w A2 l A r W)) (fun _ v _ => r.length - (intOf v).toNat)
    case atStart =>
      refine ⟨0, 0, by omega, rfl, rfl, ⟨fun _ => hc0.out, fun h => ?_⟩, hk0⟩
      have := hc0.out
      rw [List.eq_nil_of_length_eq_zero h.symm] at this
      exact absurd this (by simp [Chain])
    case round =>
      obtain ⟨i, p, hi, rfl, rfl, hst, hk⟩ := hrel
      clear hk0 hc0
      by_cases hlt : i < r.length
      · have hlt' : (i : Int) < r.length := by omega
        obtain ⟨ad, ⟨tk, tx, tn, tl, tc⟩, rfl, hri, hel⟩ := hk.out.row.el hlt
        obtain ⟨q, hat, h3, hnx⟩ := chain_drop (hst.out.1 hlt) hri
        have e1 := Lib.hid hel
        have s0 := hel
        unfold El at s0
        simp only at s0
        obtain ⟨x0, x1, x2, x3, x4⟩ := s0
        clear hel hst
        have hqs : q ≤ s.size := by have := hat.fits; omega
        have hrow := hat.row
        have hcol := hat.col
        simp only at hrow hcol
        have hp5 := spot_pos s.data.toList q
        have qp := HP.out s tl tc wr (by omega) (by unfold in64; omega) (by unfold in64; omega)
        rw [plV_yes (k := q) (by omega) ⟨hrow.symm, hcol.symm⟩] at qp
        simp only at qp
        have HT := Lib.hid hat
        clear hat hrow hcol hp5
        go_wp2_with fail
        refine qp.mono ?_
        rintro e w2 ⟨rfl, hb2⟩
        have hk2 := Lib.hid ((hk.out.step hb2).step (Below.refl _ _).drew)
        have e2 := Lib.hid ((e1.out.step hb2).step (Below.refl _ _).drew)
        have htx : ((⟨tx.toArray⟩ : ByteArray).data.toList) = tx := by simp
        generalize hxs : (⟨tx.toArray⟩ : ByteArray) = xs at *
        have hxl : xs.size = tx.length := by rw [← size_len_, htx]
        have hfit : q + xs.size ≤ s.size := by have := HT.out.fits; simp only at this; omega
        have hpq : p ≤ q := HT.out.le
        have hex : s.extract q (q + xs.size) = xs := by
          have h1 := HT.out.text
          simp only at h1
          have h2 : (s.extract q (q + xs.size)).data.toList = xs.data.toList := by
            rw [extract_span5, span_gap, htx, hxl, show q + tx.length - q = tx.length by omega]
            exact h1
          apply ByteArray.ext
          exact Array.toList_inj.1 h2
        have hgp : gapL (s.extract p q).data.toList false = true := by
          rw [extract_span5, span_gap]
          exact HT.out.gap
        have qg := fun W => lawGap (s.extract p q) (by simp; omega) W
        rw [hgp] at qg
        have hrt := HT.out.right
        have hin : in64 tk ∧ in64 tn := by
          unfold rightV at hrt
          simp only at hrt
          split at hrt
          · simp at hrt; unfold in64; omega
          · split at hrt
            · simp at hrt
              refine ⟨by unfold in64; omega, ?_⟩
              rw [hrt.2]
              unfold numV
              split
              · unfold in64; simp
              · exact wrap_in _
            · split at hrt
              · simp at hrt; unfold in64; omega
              · simp at hrt; unfold in64; omega
        have qr := fun W h => HI.out tk tx tn tl tc W h (by omega) hin.1 hin.2
        rw [hrt, hxs] at qr
        have E2 : ∀ W, El W (ad.add (i * 5)) ⟨tk, tx, tn, tl, tc⟩ → (W.cell? (ad.add (i * 5)) = some (.int .i64 tk) ∧ W.cell? ⟨(ad.add (i * 5)).block, (ad.add (i * 5)).off + 1, none⟩ = some (.string xs) ∧ W.cell? ⟨(ad.add (i * 5)).block, (ad.add (i * 5)).off + 2, none⟩ = some (.int .i64 tn) ∧ W.cell? ⟨(ad.add (i * 5)).block, (ad.add (i * 5)).off + 3, none⟩ = some (.int .i64 tl) ∧ W.cell? ⟨(ad.add (i * 5)).block, (ad.add (i * 5)).off + 4, none⟩ = some (.int .i64 tc)) := fun W h => by rw [← hxs]; exact h
        have s0 := E2 _ e2.out
        have E2 := Lib.hid E2
        have hqp' : ¬ (q : Int) < p := by omega
        have hfit' : ¬ (s.size : Int) < (q : Int) + xs.size := by omega
        have hll : Hid (tx.length = xs.size) := hxl.symm
        clear hgp hrt hin hb2 hk e1 qp htx hxl x0 x1 x2 x3 x4 hri
        have H3 := Lib.hid h3
        have HN := Lib.hid hnx
        clear h3 hnx
        by_cases hl : i + 1 = r.length
        · obtain rfl : tk = 3 := H3.out.2 hl
          have hI : Hid ((i : Int) = (r.length : Int) - 1) := by show (i : Int) = _; omega
          clear hl
          go_wp2_with fail
          simp only [List.append_eq, List.cons_append, List.nil_append]
          have g1 : ((q : Int) < p) = False := by simp; omega
          have g2 : ((s.size : Int) < (q : Int) + xs.size) = False := by simp; omega
          have hw1 : IntKind.i64.wrap ((q : Int) + xs.size) = (q : Int) + xs.size := wrap_small _ (by omega) (by omega)
          have hw2 : IntKind.i64.wrap ((r.length : Int) - 1) = (r.length : Int) - 1 := wrap_small _ (by omega) (by omega)
          have g5 : ((q : Int) ≤ (q : Int) + xs.size) = True := eq_true (by omega)
          have g6 : ((q : Int) + xs.size ≤ s.size) = True := eq_true (by omega)
          have hee : (xs.toList == xs.toList) = true := by simp
          have hex2 : s.extract q (((q : Int) + xs.size).toNat) = xs := by rw [show ((q : Int) + xs.size).toNat = q + xs.size by omega]; exact hex
          have g3 : ((i : Int) = (r.length : Int) - 1) = True := by exact eq_true hI.out
          have g4 : ((i : Int) == (r.length : Int) - 1) = true := by rw [beq_iff_eq]; exact hI.out
          go_region_held3 (fun w' => w'.cell? (ad.add (i * 5)) = some (.int .i64 3) ∧ w'.cell? ⟨(ad.add (i * 5)).block, (ad.add (i * 5)).off + 1, none⟩ = some (.string xs) ∧ w'.cell? ⟨(ad.add (i * 5)).block, (ad.add (i * 5)).off + 2, none⟩ = some (.int .i64 tn) ∧ w'.cell? ⟨(ad.add (i * 5)).block, (ad.add (i * 5)).off + 3, none⟩ = some (.int .i64 tl) ∧ w'.cell? ⟨(ad.add (i * 5)).block, (ad.add (i * 5)).off + 4, none⟩ = some (.int .i64 tc)) (first | with_reducible exact s0 | with_reducible exact s1 | with_reducible exact s2)
            (first
              | (go_at_call 23
                 with_reducible refine (qg w2.drew).mono ?_
                 rintro e w3 ⟨rfl, rfl⟩
                 have s1 := s0)
              | (go_at_call 16
                 have hLr := hL0.out.below hk2.out.below
                 with_reducible refine (qr _ hLr).mono ?_
                 rintro e w4 ⟨rfl, hb4⟩
                 have hk4 := Lib.hid (hk2.out.step hb4)
                 have s2 := E2.out _ (e2.out.step hb4)))
          all_goals
            (have hk5 := Lib.hid (hk4.out.step (Below.refl _ _))
             have k1 := s2.2.1
             clear hk2 hk4 e2 E2 s0 s1 qg qr g1 g2 g3 g4 g5 g6 hw2 hex hex2 hee
             go_wp2_with fail
             refine ⟨⟨i + 1, q + xs.size, by omega, by go_num, by go_num, ⟨fun h => ?_, fun _ => ?_⟩, hk5⟩, by simp [intOf]; omega⟩
             · have := hI.out; omega
             · have := HT.out.last rfl
               have h2 := hll.out
               simp only at this
               omega)
        · have hk3 : tk ≠ 3 := fun h => hl (H3.out.1 h)
          have hI : Hid (¬ (i : Int) = (r.length : Int) - 1) := by show ¬ (i : Int) = _; omega
          have HL2 := Lib.hid hl
          clear hl
          go_wp2_with fail
          simp only [List.append_eq, List.cons_append, List.nil_append]
          have g1 : ((q : Int) < p) = False := by simp; omega
          have g2 : ((s.size : Int) < (q : Int) + xs.size) = False := by simp; omega
          have hw1 : IntKind.i64.wrap ((q : Int) + xs.size) = (q : Int) + xs.size := wrap_small _ (by omega) (by omega)
          have hw2 : IntKind.i64.wrap ((r.length : Int) - 1) = (r.length : Int) - 1 := wrap_small _ (by omega) (by omega)
          have g5 : ((q : Int) ≤ (q : Int) + xs.size) = True := eq_true (by omega)
          have g6 : ((q : Int) + xs.size ≤ s.size) = True := eq_true (by omega)
          have hee : (xs.toList == xs.toList) = true := by simp
          have hex2 : s.extract q (((q : Int) + xs.size).toNat) = xs := by rw [show ((q : Int) + xs.size).toNat = q + xs.size by omega]; exact hex
          have g3 : ((i : Int) = (r.length : Int) - 1) = False := eq_false hI.out
          have g7 : (tk = 3) = False := eq_false hk3
          have g8 : (tk == 3) = false := by rw [beq_eq_false_iff_ne]; exact hk3
          have g4 : ((i : Int) == (r.length : Int) - 1) = false := by rw [beq_eq_false_iff_ne]; exact hI.out
          go_region_held3 (fun w' => w'.cell? (ad.add (i * 5)) = some (.int .i64 tk) ∧ w'.cell? ⟨(ad.add (i * 5)).block, (ad.add (i * 5)).off + 1, none⟩ = some (.string xs) ∧ w'.cell? ⟨(ad.add (i * 5)).block, (ad.add (i * 5)).off + 2, none⟩ = some (.int .i64 tn) ∧ w'.cell? ⟨(ad.add (i * 5)).block, (ad.add (i * 5)).off + 3, none⟩ = some (.int .i64 tl) ∧ w'.cell? ⟨(ad.add (i * 5)).block, (ad.add (i * 5)).off + 4, none⟩ = some (.int .i64 tc)) (first | with_reducible exact s0 | with_reducible exact s1 | with_reducible exact s2)
            (first
              | (go_at_call 23
                 with_reducible refine (qg w2.drew).mono ?_
                 rintro e w3 ⟨rfl, rfl⟩
                 have s1 := s0)
              | (go_at_call 16
                 have hLr := hL0.out.below hk2.out.below
                 with_reducible refine (qr _ hLr).mono ?_
                 rintro e w4 ⟨rfl, hb4⟩
                 have hk4 := Lib.hid (hk2.out.step hb4)
                 have s2 := E2.out _ (e2.out.step hb4)))
          all_goals
            (have hk5 := Lib.hid (hk4.out.step (Below.refl _ _))
             have k1 := s2.2.1
             clear hk2 hk4 e2 E2 s0 s1 qg qr g7 g8 hk3 g1 g2 g3 g4 g5 g6 hw2 hex hex2 hee
             go_wp2_with fail
             refine ⟨⟨i + 1, q + xs.size, by omega, by go_num, by go_num, ⟨fun h => ?_, fun h => ?_⟩, hk5⟩, by simp [intOf]; omega⟩
             · have h2 := HN.out (by omega)
               have h4 := hll.out
               rw [h4] at h2
               exact h2
             · exact absurd h HL2.out)
      · have hin : i = r.length := by omega
        have hlt' : ¬ (i : Int) < r.length := by omega
        have hps := hst.out.2 hin
        subst hps
        clear hst hin hlt
        have hg0 : Hid (GrowK w (.slice none 0 0) ((l.take 0).filter goodT) wr) := ⟨World.ownsRow_nil _ _ _ _, hk.out.below⟩
        clear hk
        go_wp2_with fail
        go_loopw [11, 12] (fun rv v W => ∃ i : Nat, i ≤ l.length ∧ v = .int .i64 i ∧ Hid (GrowK w rv ((l.take i).filter goodT) W)) (fun _ v _ => l.length - (intOf v).toNat)
        case atStart => exact ⟨0, by omega, rfl, hg0⟩
        case round =>
          obtain ⟨i, hi, rfl, hg⟩ := hrel
          clear hg0
          by_cases hlt : i < l.length
          · have hlt' : (i : Int) < l.length := by omega
            obtain ⟨ad, ⟨tk, tx, tn, tl, tc⟩, hA2, hri, hel⟩ := (HR.out.below hg.out.2).el hlt
            obtain ⟨hx0, hik, hin⟩ := HL.out _ (List.mem_of_getElem? hri)
            simp only at hx0 hik hin
            have hno := fun h => good_no hri h
            have hye := fun h => good_yes hri h
            have hgl : ((l.take i).filter goodT).length ≤ 1000000000 := by
              have := List.length_filter_le goodT (l.take i)
              rw [List.length_take] at this
              omega
            have e0 := Lib.hid hel
            unfold El at hel
            simp only at hel
            obtain ⟨x0, x1, x2, x3, x4⟩ := hel
            have hsx : (⟨tx.toArray⟩ : ByteArray).size = tx.length := by simp [ByteArray.size]
            have hmx : tx.length ≤ maxLen := hx0
            unfold maxLen at hmx
            have HN := Lib.hid hno
            have HY := Lib.hid hye
            clear hno hye hri hx0
            subst hA2
            by_cases h60 : tx.length ≤ 60
            · have h60' : ((⟨tx.toArray⟩ : ByteArray).size : Int) ≤ 60 := by omega
              have qr := fun W h => HI.out tk tx tn tl tc W h (by omega) hik hin
              obtain ⟨rv, hrv⟩ : ∃ rv, rightV ⟨tk, tx, tn, tl, tc⟩ = rv := ⟨_, rfl⟩
              rw [hrv] at qr
              have HV := Lib.hid hrv
              have HE := Lib.hid h60
              clear hik hin hsx hmx h60 hrv
              generalize hxs : (⟨tx.toArray⟩ : ByteArray) = xs at *
              cases rv with
              | false =>
                have hz := HN.out (by unfold goodT; rw [HV.out]; simp)
                clear HN HY HV HE
                go_wp2_with fail
                refine (qr _ (hL0.out.below hg.out.2)).mono ?_
                rintro e w2 ⟨rfl, hb2⟩
                have hg2 := Lib.hid (hg.out.step hb2)
                clear qr hb2 hg e0 x0 x1 x2 x3 x4
                go_wp2_with fail
                exact ⟨⟨i + 1, by omega, by go_num, by rw [hz]; exact hg2⟩, by simp [intOf]; omega⟩
              | true =>
                by_cases hk3 : tk = 3
                · have hz := HN.out (by unfold goodT; rw [hk3]; simp)
                  subst hk3
                  clear HN HY HV HE
                  go_wp2_with fail
                  refine (qr _ (hL0.out.below hg.out.2)).mono ?_
                  rintro e w2 ⟨rfl, hb2⟩
                  have hg2 := Lib.hid (hg.out.step hb2)
                  have x0' := cst5 hb2 x0
                  clear qr hb2 hg e0 x0 x1 x2 x3 x4
                  go_wp2_with fail
                  exact ⟨⟨i + 1, by omega, by go_num, by rw [hz]; exact hg2⟩, by simp [intOf]; omega⟩
                · have hz := HY.out (by unfold goodT; rw [HV.out]; simp [HE.out, hk3])
                  have g3 : (tk != 3) = true := by simp [hk3]
                  clear HN HY HV HE
                  go_wp2_with fail
                  refine (qr _ (hL0.out.below hg.out.2)).mono ?_
                  rintro e w2 ⟨rfl, hb2⟩
                  have hg2 := Lib.hid (hg.out.step hb2)
                  have e2 := e0.out.step hb2
                  unfold El at e2
                  simp only at e2
                  rw [hxs] at e2
                  obtain ⟨y0, y1, y2, y3, y4⟩ := e2
                  clear qr hb2 hg e0 x0 x1 x2 x3 x4
                  subst hxs
                  go_wp2_with (first
                    | (at_builtin
                       refine wpList_pushK rfl (.tmp 158) (.tmp 163) rfl _ ((l.take i).filter goodT) ⟨tk, tx, tn, tl, tc⟩ w _ rfl hg2.out ?hx ?hl ?_
                       case hx => rfl
                       case hl => exact hgl
                       intro v' w3 hg3 hkeep
                       have hg3 := Lib.hid hg3
                       clear hkeep))
                  exact ⟨⟨i + 1, by omega, by go_num, by rw [hz]; exact hg3⟩, by simp [intOf]; omega⟩
            · have h60' : ¬ ((⟨tx.toArray⟩ : ByteArray).size : Int) ≤ 60 := by omega
              have hz := HN.out (by unfold goodT; simp; omega)
              clear HN HY hik hin hsx hmx h60
              generalize (⟨tx.toArray⟩ : ByteArray) = xs at *
              go_wp2_with fail
              exact ⟨⟨i + 1, by omega, by go_num, by rw [hz]; exact hg⟩, by simp [intOf]; omega⟩
          · have hin : i = l.length := by omega
            have hlt' : ¬ (i : Int) < l.length := by omega
            have htk : l.take i = l := List.take_of_length_le (by omega)
            rw [htk] at hg
            have hgd : ∀ t ∈ l.filter goodT, t.x.length ≤ 60 ∧ rightV t = true ∧ t.k ≠ 3 := fun t ht => by
              have := (List.mem_filter.1 ht).2
              unfold goodT at this
              simp only [Bool.and_eq_true, decide_eq_true_eq] at this
              exact ⟨this.1.1, this.1.2, this.2⟩
            have hgl : (l.filter goodT).length ≤ 30 := Nat.le_trans (List.length_filter_le goodT l) HM.out
            obtain ⟨rr, hrr⟩ : ∃ rr, l.filter goodT = rr := ⟨_, rfl⟩
            rw [hrr] at hg hgd hgl
            obtain ⟨A4, c4, hv4, hr4⟩ := hg.out.row
            obtain ⟨u, hu, hal⟩ := all_join rr (fun t ht => (hgd t ht).2)
            have hjl : (joinV rr).length ≤ 1900 := by
              have h1 := joinA_len rr 60 (fun t ht => (hgd t ht).1)
              have h2 : rr.length * (60 + 1) ≤ 30 * 61 := Nat.mul_le_mul hgl (Nat.le_refl _)
              have h3 : (joinA rr).1 = joinV rr := rfl
              rw [h3] at h1
              omega
            have qj := fun W h => HJ.out A4 rr.length c4 rr W h (by omega) (fun t ht => Nat.le_trans (hgd t ht).1 (by omega))
            have qa := fun W h => HA.out ⟨(joinV rr).toArray⟩ W h (by simp [ByteArray.size]; omega)
            rw [show (⟨(joinV rr).toArray⟩ : ByteArray).data.toList = joinV rr by simp, hu] at qa
            simp only at qa
            have hul := hal.len
            have hla := hal.last
            have HAT := Lib.hid (fun i t => hal.at_ (i := i) (t := t))
            generalize (⟨(joinV rr).toArray⟩ : ByteArray) = js at *
            have HG4 := Lib.hid hr4
            have hbW := Lib.hid hg.out.2
            clear hgd hu hal hjl hr4 hg htk hin hlt hrr
            subst hv4
            go_wp2_with fail
            refine (qj _ HG4.out).mono ?_
            rintro e w5 ⟨rfl, hb5⟩
            have hbW5 := Lib.hid (bth5 hbW.out hb5)
            have HG5 := Lib.hid (HG4.out.below hb5)
            clear qj hb5 HG4 hbW
            go_wp2_with fail
            refine (qa _ (hL0.out.below hbW5.out)).mono ?_
            rintro e w6 ⟨v6, rfl, A6, c6, rfl, hr6, -, hb6⟩
            have hbn := bnew5 w6 (.cells #[.int .i64 0, .int .i64 0, .int .i64 0] 36)
            have hK := Lib.hid (And.intro (bth5 (bth5 hbW5.out hb6) hbn) (And.intro ((HG5.out.below hb6).below hbn) (hr6.below hbn)))
            obtain ⟨ad6, t6, e6, ht6, hel6⟩ := hK.out.2.2.el (i := rr.length) (by omega)
            obtain ⟨e', he', he3⟩ := hla
            rw [he'] at ht6
            injection ht6 with ht6
            subst ht6
            have z0 := hel6.1
            rw [he3] at z0
            have hu1 : (u.length : Int) = (rr.length : Int) + 1 := by omega
            have HU := Lib.hid hul
            clear qa hb6 hbn hr6 HG5 hbW5 hel6 he' he3 hul
            subst e6
            have hw9 : IntKind.i64.wrap ((rr.length : Int) + 1) = (rr.length : Int) + 1 := IntWalk.i64_in _ (by omega)
            have hb1 : (rr.length : Int) < (u.length : Int) := by omega
            go_wp2_with fail
            go_loopw [15] (fun v W => ∃ i : Nat, i ≤ rr.length ∧ v = .int .i64 i ∧ Hid (Below w.heap.size w W ∧ RowT W A4 rr.length rr ∧ RowT W (some ad6) u.length u)) (fun v _ => rr.length - (intOf v).toNat)
            case atStart => exact ⟨0, by omega, rfl, hK⟩
            case round =>
              obtain ⟨i, hi, rfl, hk⟩ := hrel
              clear hK
              by_cases hlt : i < rr.length
              · have hlt' : (i : Int) < rr.length := by omega
                have hltu : (i : Int) < u.length := by have := HU.out; omega
                have hltv : (i : Int) < (rr.length : Int) + 1 := by omega
                have h0i : (0 : Int) ≤ (i : Int) := by omega
                obtain ⟨adr, ⟨ak, ax, an, al, ac⟩, hA4, hra, hea⟩ := hk.out.2.1.el hlt
                obtain ⟨adu, ⟨bk, bx, bn, bl, bc⟩, hA6, hub, heb⟩ := hk.out.2.2.el (i := i) (by have := HU.out; omega)
                injection hA6 with hA6
                subst hA6
                subst hA4
                obtain ⟨t', ht', hsm⟩ := HAT.out i _ hra
                rw [hub] at ht'
                injection ht' with ht'
                subst ht'
                have qs := fun W => HS.out bk bx bn bl bc ak ax an al ac W
                rw [hsm] at qs
                clear hra hub hsm hlt
                have hd := (Below.refl wr.heap.size wr).drew
                have hk1 := Lib.hid (And.intro (bth5 hk.out.1 hd) (And.intro (hk.out.2.1.below hd) (hk.out.2.2.below hd)))
                have hea1 := Lib.hid (hea.step hd)
                have heb1 := Lib.hid (heb.step hd)
                have mk : ∀ W, El W (adr.add (i * 5)) ⟨ak, ax, an, al, ac⟩ → El W (ad6.add (i * 5)) ⟨bk, bx, bn, bl, bc⟩ → (W.cell? (adr.add (i * 5)) = some (.int .i64 ak) ∧ W.cell? ⟨(adr.add (i * 5)).block, (adr.add (i * 5)).off + 1, none⟩ = some (.string ⟨ax.toArray⟩) ∧ W.cell? ⟨(adr.add (i * 5)).block, (adr.add (i * 5)).off + 2, none⟩ = some (.int .i64 an) ∧ W.cell? ⟨(adr.add (i * 5)).block, (adr.add (i * 5)).off + 3, none⟩ = some (.int .i64 al) ∧ W.cell? ⟨(adr.add (i * 5)).block, (adr.add (i * 5)).off + 4, none⟩ = some (.int .i64 ac) ∧ W.cell? (ad6.add (i * 5)) = some (.int .i64 bk) ∧ W.cell? ⟨(ad6.add (i * 5)).block, (ad6.add (i * 5)).off + 1, none⟩ = some (.string ⟨bx.toArray⟩) ∧ W.cell? ⟨(ad6.add (i * 5)).block, (ad6.add (i * 5)).off + 2, none⟩ = some (.int .i64 bn) ∧ W.cell? ⟨(ad6.add (i * 5)).block, (ad6.add (i * 5)).off + 3, none⟩ = some (.int .i64 bl) ∧ W.cell? ⟨(ad6.add (i * 5)).block, (ad6.add (i * 5)).off + 4, none⟩ = some (.int .i64 bc)) := fun W h h' => ⟨h.1, h.2.1, h.2.2.1, h.2.2.2.1, h.2.2.2.2, h'.1, h'.2.1, h'.2.2.1, h'.2.2.2.1, h'.2.2.2.2⟩
                have s0 := mk _ hea1.out heb1.out
                have MK := Lib.hid mk
                clear hd hk hea heb mk
                go_wp2_with fail
                go_region_held3 (fun w' => w'.cell? (adr.add (i * 5)) = some (.int .i64 ak) ∧ w'.cell? ⟨(adr.add (i * 5)).block, (adr.add (i * 5)).off + 1, none⟩ = some (.string ⟨ax.toArray⟩) ∧ w'.cell? ⟨(adr.add (i * 5)).block, (adr.add (i * 5)).off + 2, none⟩ = some (.int .i64 an) ∧ w'.cell? ⟨(adr.add (i * 5)).block, (adr.add (i * 5)).off + 3, none⟩ = some (.int .i64 al) ∧ w'.cell? ⟨(adr.add (i * 5)).block, (adr.add (i * 5)).off + 4, none⟩ = some (.int .i64 ac) ∧ w'.cell? (ad6.add (i * 5)) = some (.int .i64 bk) ∧ w'.cell? ⟨(ad6.add (i * 5)).block, (ad6.add (i * 5)).off + 1, none⟩ = some (.string ⟨bx.toArray⟩) ∧ w'.cell? ⟨(ad6.add (i * 5)).block, (ad6.add (i * 5)).off + 2, none⟩ = some (.int .i64 bn) ∧ w'.cell? ⟨(ad6.add (i * 5)).block, (ad6.add (i * 5)).off + 3, none⟩ = some (.int .i64 bl) ∧ w'.cell? ⟨(ad6.add (i * 5)).block, (ad6.add (i * 5)).off + 4, none⟩ = some (.int .i64 bc)) (first | with_reducible exact s0 | with_reducible exact s1)
                  (first
                    | (go_at_call 18
                       with_reducible refine (qs wr.drew).mono ?_
                       rintro e w8 ⟨rfl, hb8⟩
                       have hk2 := Lib.hid (And.intro (bth5 hk1.out.1 hb8) (And.intro (hk1.out.2.1.below hb8) (hk1.out.2.2.below hb8)))
                       have s1 := MK.out _ (hea1.out.step hb8) (heb1.out.step hb8)))
                clear hk1 s0 s1 hea1 heb1 MK qs hb8
                go_wp2_with fail
                exact ⟨⟨i + 1, by omega, by go_num, hk2⟩, by simp [intOf]; omega⟩
              · have hlt' : ¬ (i : Int) < rr.length := by omega
                have hbl := Lib.hid hk.out.1
                clear hk hlt
                go_wp2_with fail
                refine (QW.out _ (hL0.out.below hbl.out)).mono ?_
                rintro e w9 ⟨rfl, hb9⟩
                go_wp2_with fail
                go_ret
                exact ⟨by first | rfl | simp, bth5 hbl.out hb9⟩
  · clear hch
    have he2 : (f2 == 0) = false := by simp [he]
    have hk := hk0
    clear hk0
    have hg0 : Hid (GrowK w (.slice none 0 0) ((l.take 0).filter goodT) (w1.alloc (.cells #[.int .i64 f0, .int .i64 f1, .int .i64 f2] 36))) := ⟨World.ownsRow_nil _ _ _ _, hk.out.below⟩
    clear hk
    go_wp2_with fail
    go_loopw [11, 12] (fun rv v W => ∃ i : Nat, i ≤ l.length ∧ v = .int .i64 i ∧ Hid (GrowK w rv ((l.take i).filter goodT) W)) (fun _ v _ => l.length - (intOf v).toNat)
    case atStart => exact ⟨0, by omega, rfl, hg0⟩
    case round =>
      obtain ⟨i, hi, rfl, hg⟩ := hrel
      clear hg0
      by_cases hlt : i < l.length
      · have hlt' : (i : Int) < l.length := by omega
        obtain ⟨ad, ⟨tk, tx, tn, tl, tc⟩, hA2, hri, hel⟩ := (HR.out.below hg.out.2).el hlt
        obtain ⟨hx0, hik, hin⟩ := HL.out _ (List.mem_of_getElem? hri)
        simp only at hx0 hik hin
        have hno := fun h => good_no hri h
        have hye := fun h => good_yes hri h
        have hgl : ((l.take i).filter goodT).length ≤ 1000000000 := by
          have := List.length_filter_le goodT (l.take i)
          rw [List.length_take] at this
          omega
        have e0 := Lib.hid hel
        unfold El at hel
        simp only at hel
        obtain ⟨x0, x1, x2, x3, x4⟩ := hel
        have hsx : (⟨tx.toArray⟩ : ByteArray).size = tx.length := by simp [ByteArray.size]
        have hmx : tx.length ≤ maxLen := hx0
        unfold maxLen at hmx
        have HN := Lib.hid hno
        have HY := Lib.hid hye
        clear hno hye hri hx0
        subst hA2
        by_cases h60 : tx.length ≤ 60
        · have h60' : ((⟨tx.toArray⟩ : ByteArray).size : Int) ≤ 60 := by omega
          have qr := fun W h => HI.out tk tx tn tl tc W h (by omega) hik hin
          obtain ⟨rv, hrv⟩ : ∃ rv, rightV ⟨tk, tx, tn, tl, tc⟩ = rv := ⟨_, rfl⟩
          rw [hrv] at qr
          have HV := Lib.hid hrv
          have HE := Lib.hid h60
          clear hik hin hsx hmx h60 hrv
          generalize hxs : (⟨tx.toArray⟩ : ByteArray) = xs at *
          cases rv with
          | false =>
            have hz := HN.out (by unfold goodT; rw [HV.out]; simp)
            clear HN HY HV HE
            go_wp2_with fail
            refine (qr _ (hL0.out.below hg.out.2)).mono ?_
            rintro e w2 ⟨rfl, hb2⟩
            have hg2 := Lib.hid (hg.out.step hb2)
            clear qr hb2 hg e0 x0 x1 x2 x3 x4
            go_wp2_with fail
            exact ⟨⟨i + 1, by omega, by go_num, by rw [hz]; exact hg2⟩, by simp [intOf]; omega⟩
          | true =>
            by_cases hk3 : tk = 3
            · have hz := HN.out (by unfold goodT; rw [hk3]; simp)
              subst hk3
              clear HN HY HV HE
              go_wp2_with fail
              refine (qr _ (hL0.out.below hg.out.2)).mono ?_
              rintro e w2 ⟨rfl, hb2⟩
              have hg2 := Lib.hid (hg.out.step hb2)
              have x0' := cst5 hb2 x0
              clear qr hb2 hg e0 x0 x1 x2 x3 x4
              go_wp2_with fail
              exact ⟨⟨i + 1, by omega, by go_num, by rw [hz]; exact hg2⟩, by simp [intOf]; omega⟩
            · have hz := HY.out (by unfold goodT; rw [HV.out]; simp [HE.out, hk3])
              have g3 : (tk != 3) = true := by simp [hk3]
              clear HN HY HV HE
              go_wp2_with fail
              refine (qr _ (hL0.out.below hg.out.2)).mono ?_
              rintro e w2 ⟨rfl, hb2⟩
              have hg2 := Lib.hid (hg.out.step hb2)
              have e2 := e0.out.step hb2
              unfold El at e2
              simp only at e2
              rw [hxs] at e2
              obtain ⟨y0, y1, y2, y3, y4⟩ := e2
              clear qr hb2 hg e0 x0 x1 x2 x3 x4
              subst hxs
              go_wp2_with (first
                | (at_builtin
                   refine wpList_pushK rfl (.tmp 158) (.tmp 163) rfl _ ((l.take i).filter goodT) ⟨tk, tx, tn, tl, tc⟩ w _ rfl hg2.out ?hx ?hl ?_
                   case hx => rfl
                   case hl => exact hgl
                   intro v' w3 hg3 hkeep
                   have hg3 := Lib.hid hg3
                   clear hkeep))
              exact ⟨⟨i + 1, by omega, by go_num, by rw [hz]; exact hg3⟩, by simp [intOf]; omega⟩
        · have h60' : ¬ ((⟨tx.toArray⟩ : ByteArray).size : Int) ≤ 60 := by omega
          have hz := HN.out (by unfold goodT; simp; omega)
          clear HN HY hik hin hsx hmx h60
          generalize (⟨tx.toArray⟩ : ByteArray) = xs at *
          go_wp2_with fail
          exact ⟨⟨i + 1, by omega, by go_num, by rw [hz]; exact hg⟩, by simp [intOf]; omega⟩
      · have hin : i = l.length := by omega
        have hlt' : ¬ (i : Int) < l.length := by omega
        have htk : l.take i = l := List.take_of_length_le (by omega)
        rw [htk] at hg
        have hgd : ∀ t ∈ l.filter goodT, t.x.length ≤ 60 ∧ rightV t = true ∧ t.k ≠ 3 := fun t ht => by
          have := (List.mem_filter.1 ht).2
          unfold goodT at this
          simp only [Bool.and_eq_true, decide_eq_true_eq] at this
          exact ⟨this.1.1, this.1.2, this.2⟩
        have hgl : (l.filter goodT).length ≤ 30 := Nat.le_trans (List.length_filter_le goodT l) HM.out
        obtain ⟨rr, hrr⟩ : ∃ rr, l.filter goodT = rr := ⟨_, rfl⟩
        rw [hrr] at hg hgd hgl
        obtain ⟨A4, c4, hv4, hr4⟩ := hg.out.row
        obtain ⟨u, hu, hal⟩ := all_join rr (fun t ht => (hgd t ht).2)
        have hjl : (joinV rr).length ≤ 1900 := by
          have h1 := joinA_len rr 60 (fun t ht => (hgd t ht).1)
          have h2 : rr.length * (60 + 1) ≤ 30 * 61 := Nat.mul_le_mul hgl (Nat.le_refl _)
          have h3 : (joinA rr).1 = joinV rr := rfl
          rw [h3] at h1
          omega
        have qj := fun W h => HJ.out A4 rr.length c4 rr W h (by omega) (fun t ht => Nat.le_trans (hgd t ht).1 (by omega))
        have qa := fun W h => HA.out ⟨(joinV rr).toArray⟩ W h (by simp [ByteArray.size]; omega)
        rw [show (⟨(joinV rr).toArray⟩ : ByteArray).data.toList = joinV rr by simp, hu] at qa
        simp only at qa
        have hul := hal.len
        have hla := hal.last
        have HAT := Lib.hid (fun i t => hal.at_ (i := i) (t := t))
        generalize (⟨(joinV rr).toArray⟩ : ByteArray) = js at *
        have HG4 := Lib.hid hr4
        have hbW := Lib.hid hg.out.2
        clear hgd hu hal hjl hr4 hg htk hin hlt hrr
        subst hv4
        go_wp2_with fail
        refine (qj _ HG4.out).mono ?_
        rintro e w5 ⟨rfl, hb5⟩
        have hbW5 := Lib.hid (bth5 hbW.out hb5)
        have HG5 := Lib.hid (HG4.out.below hb5)
        clear qj hb5 HG4 hbW
        go_wp2_with fail
        refine (qa _ (hL0.out.below hbW5.out)).mono ?_
        rintro e w6 ⟨v6, rfl, A6, c6, rfl, hr6, -, hb6⟩
        have hbn := bnew5 w6 (.cells #[.int .i64 0, .int .i64 0, .int .i64 0] 36)
        have hK := Lib.hid (And.intro (bth5 (bth5 hbW5.out hb6) hbn) (And.intro ((HG5.out.below hb6).below hbn) (hr6.below hbn)))
        obtain ⟨ad6, t6, e6, ht6, hel6⟩ := hK.out.2.2.el (i := rr.length) (by omega)
        obtain ⟨e', he', he3⟩ := hla
        rw [he'] at ht6
        injection ht6 with ht6
        subst ht6
        have z0 := hel6.1
        rw [he3] at z0
        have hu1 : (u.length : Int) = (rr.length : Int) + 1 := by omega
        have HU := Lib.hid hul
        clear qa hb6 hbn hr6 HG5 hbW5 hel6 he' he3 hul
        subst e6
        have hw9 : IntKind.i64.wrap ((rr.length : Int) + 1) = (rr.length : Int) + 1 := IntWalk.i64_in _ (by omega)
        have hb1 : (rr.length : Int) < (u.length : Int) := by omega
        go_wp2_with fail
        go_loopw [15] (fun v W => ∃ i : Nat, i ≤ rr.length ∧ v = .int .i64 i ∧ Hid (Below w.heap.size w W ∧ RowT W A4 rr.length rr ∧ RowT W (some ad6) u.length u)) (fun v _ => rr.length - (intOf v).toNat)
        case atStart => exact ⟨0, by omega, rfl, hK⟩
        case round =>
          obtain ⟨i, hi, rfl, hk⟩ := hrel
          clear hK
          by_cases hlt : i < rr.length
          · have hlt' : (i : Int) < rr.length := by omega
            have hltu : (i : Int) < u.length := by have := HU.out; omega
            have hltv : (i : Int) < (rr.length : Int) + 1 := by omega
            have h0i : (0 : Int) ≤ (i : Int) := by omega
            obtain ⟨adr, ⟨ak, ax, an, al, ac⟩, hA4, hra, hea⟩ := hk.out.2.1.el hlt
            obtain ⟨adu, ⟨bk, bx, bn, bl, bc⟩, hA6, hub, heb⟩ := hk.out.2.2.el (i := i) (by have := HU.out; omega)
            injection hA6 with hA6
            subst hA6
            subst hA4
            obtain ⟨t', ht', hsm⟩ := HAT.out i _ hra
            rw [hub] at ht'
            injection ht' with ht'
            subst ht'
            have qs := fun W => HS.out bk bx bn bl bc ak ax an al ac W
            rw [hsm] at qs
            clear hra hub hsm hlt
            have hd := (Below.refl wr.heap.size wr).drew
            have hk1 := Lib.hid (And.intro (bth5 hk.out.1 hd) (And.intro (hk.out.2.1.below hd) (hk.out.2.2.below hd)))
            have hea1 := Lib.hid (hea.step hd)
            have heb1 := Lib.hid (heb.step hd)
            have mk : ∀ W, El W (adr.add (i * 5)) ⟨ak, ax, an, al, ac⟩ → El W (ad6.add (i * 5)) ⟨bk, bx, bn, bl, bc⟩ → (W.cell? (adr.add (i * 5)) = some (.int .i64 ak) ∧ W.cell? ⟨(adr.add (i * 5)).block, (adr.add (i * 5)).off + 1, none⟩ = some (.string ⟨ax.toArray⟩) ∧ W.cell? ⟨(adr.add (i * 5)).block, (adr.add (i * 5)).off + 2, none⟩ = some (.int .i64 an) ∧ W.cell? ⟨(adr.add (i * 5)).block, (adr.add (i * 5)).off + 3, none⟩ = some (.int .i64 al) ∧ W.cell? ⟨(adr.add (i * 5)).block, (adr.add (i * 5)).off + 4, none⟩ = some (.int .i64 ac) ∧ W.cell? (ad6.add (i * 5)) = some (.int .i64 bk) ∧ W.cell? ⟨(ad6.add (i * 5)).block, (ad6.add (i * 5)).off + 1, none⟩ = some (.string ⟨bx.toArray⟩) ∧ W.cell? ⟨(ad6.add (i * 5)).block, (ad6.add (i * 5)).off + 2, none⟩ = some (.int .i64 bn) ∧ W.cell? ⟨(ad6.add (i * 5)).block, (ad6.add (i * 5)).off + 3, none⟩ = some (.int .i64 bl) ∧ W.cell? ⟨(ad6.add (i * 5)).block, (ad6.add (i * 5)).off + 4, none⟩ = some (.int .i64 bc)) := fun W h h' => ⟨h.1, h.2.1, h.2.2.1, h.2.2.2.1, h.2.2.2.2, h'.1, h'.2.1, h'.2.2.1, h'.2.2.2.1, h'.2.2.2.2⟩
            have s0 := mk _ hea1.out heb1.out
            have MK := Lib.hid mk
            clear hd hk hea heb mk
            go_wp2_with fail
            go_region_held3 (fun w' => w'.cell? (adr.add (i * 5)) = some (.int .i64 ak) ∧ w'.cell? ⟨(adr.add (i * 5)).block, (adr.add (i * 5)).off + 1, none⟩ = some (.string ⟨ax.toArray⟩) ∧ w'.cell? ⟨(adr.add (i * 5)).block, (adr.add (i * 5)).off + 2, none⟩ = some (.int .i64 an) ∧ w'.cell? ⟨(adr.add (i * 5)).block, (adr.add (i * 5)).off + 3, none⟩ = some (.int .i64 al) ∧ w'.cell? ⟨(adr.add (i * 5)).block, (adr.add (i * 5)).off + 4, none⟩ = some (.int .i64 ac) ∧ w'.cell? (ad6.add (i * 5)) = some (.int .i64 bk) ∧ w'.cell? ⟨(ad6.add (i * 5)).block, (ad6.add (i * 5)).off + 1, none⟩ = some (.string ⟨bx.toArray⟩) ∧ w'.cell? ⟨(ad6.add (i * 5)).block, (ad6.add (i * 5)).off + 2, none⟩ = some (.int .i64 bn) ∧ w'.cell? ⟨(ad6.add (i * 5)).block, (ad6.add (i * 5)).off + 3, none⟩ = some (.int .i64 bl) ∧ w'.cell? ⟨(ad6.add (i * 5)).block, (ad6.add (i * 5)).off + 4, none⟩ = some (.int .i64 bc)) (first | with_reducible exact s0 | with_reducible exact s1)
              (first
                | (go_at_call 18
                   with_reducible refine (qs wr.drew).mono ?_
                   rintro e w8 ⟨rfl, hb8⟩
                   have hk2 := Lib.hid (And.intro (bth5 hk1.out.1 hb8) (And.intro (hk1.out.2.1.below hb8) (hk1.out.2.2.below hb8)))
                   have s1 := MK.out _ (hea1.out.step hb8) (heb1.out.step hb8)))
            clear hk1 s0 s1 hea1 heb1 MK qs hb8
            go_wp2_with fail
            exact ⟨⟨i + 1, by omega, by go_num, hk2⟩, by simp [intOf]; omega⟩
          · have hlt' : ¬ (i : Int) < rr.length := by omega
            have hbl := Lib.hid hk.out.1
            clear hk hlt
            go_wp2_with fail
            refine (QW.out _ (hL0.out.below hbl.out)).mono ?_
            rintro e w9 ⟨rfl, hb9⟩
            go_wp2_with fail
            go_ret
            exact ⟨by first | rfl | simp, bth5 hbl.out hb9⟩
end Go.Proofs.YthlpldmodflmjaaDoor
