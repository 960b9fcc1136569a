/- pretty's numbers: strconv.FormatUint at 2^63, signed, Number. put, begin, end, line. operand, expr. -/
import Derived.Test.YtejifkeeihkcjaaDoorGPrI
import Derived.Test.YtejifkeeihkcjaaDoorGAstN
import Derived.Test.YtejifkeeihkcjaaDoorShelf
import Derived.Lib.LaidTab
import Derived.Lib.AppendIntMem
import Derived.WalkSmall
import Derived.BigCall
import Derived.BigGuard
import Derived.Test.YtejifkeeihkcjaaDoorGPriA
import Derived.Test.YtejifkeeihkcjaaDoorGAstV
namespace Go.Proofs.YtejifkeeihkcjaaDoor
section
open Go.RowKit

theorem gTabP : Tryd.prog.globalNamed "internal/strconv.uint64pow10" = some 6 := by kernel_rfl
/-- What pretty asks of package variables. -/
structure LaidP (w : World) : Prop where
  ast : LaidA w
  big : 6 < w.heap.size
  tab : Lib.TabIs Tryd.prog w "internal/strconv.uint64pow10" .u64 Lib.pow10Tab
theorem LaidP.step {w w' : World} (h : LaidP w) (hb : Below w.heap.size w w') : LaidP w' := ⟨h.ast.step hb, Nat.lt_of_lt_of_le h.big hb.size, var?_below hb gTabP h.big h.tab⟩
theorem below_growP (w : World) (k : Nat) (os : Array Obj) : Below w.heap.size w (Go.Sort.grow (w.drewN k) os) :=
  ⟨rfl, rfl, rfl, by simp [Go.Sort.grow], fun i hi => by
    show (w.heap ++ os)[i]? = w.heap[i]?
    rw [Array.getElem?_append_left hi]⟩
theorem fin_posP (w : World) (o : Obj) (dk : Array UInt8) (k : Nat) : Below w.heap.size w ((Go.Sort.putRow (fun (b : UInt8) => Value.int .u8 (b.toNat : Int)) (w.alloc o) w.heap.size 0 dk).drewN k) := by
  obtain ⟨os', _, e⟩ := Go.Sort.putRow_grow_new (fun (b : UInt8) => Value.int .u8 (b.toNat : Int)) w #[o] w.heap.size 0 dk (Nat.le_refl _)
  rw [Go.Sort.alloc_eq_grow, e]
  exact below_growP w k os'

open Go.Sort Go.Lib in
set_option maxHeartbeats 6400000 in
set_option maxRecDepth 100000 in
/-- internal/strconv.FormatUint at 2^63. -/
theorem fmtUint63i (w : World) (hL : LaidP w) :
    Calls Tryd.prog 69 #[.int .u64 9223372036854775808, .int .i64 10] w fun e w' => e = .returned (.string (bs (Lib.decDigits 9223372036854775808))) ∧ Below w.heap.size w w' := by
  obtain ⟨u, hu⟩ : ∃ u : Nat, u = 9223372036854775808 := ⟨_, rfl⟩
  have hui : (9223372036854775808 : Int) = (u : Int) := by omega
  rw [show (9223372036854775808 : Nat) = u from hu.symm, hui]
  have hu1 : 1 ≤ u := by omega
  have hu64 : u < 18446744073709551616 := by omega
  have hge : ((u : Int) < 100) = False := by simp; omega
  have hnd20 : Lib.nDigits u ≤ 20 := by have := Lib.numDigits_eq u hu1 hu64; split at this <;> omega
  have hal : Tryd.prog.arrayLen 119 = 24 := by simp [Program.arrayLen, Tryd.underlying119]
  have hsl1 : ∀ W, (Instr.sliceAt 119 (.pointer (some ⟨w.heap.size, 0, none⟩)) none (some (.int .i64 (Lib.nDigits u : Int))) none).run Tryd.prog W = .ok (.slice (some ⟨w.heap.size, 0, none⟩) (Lib.nDigits u) 24) W := fun W => by
    rw [run_sliceAt_array_h W 119 ⟨w.heap.size, 0, none⟩ (by simp [Program.arrayLen, Program.elem, Tryd.underlying119]) .i64 (Lib.nDigits u : Int) (by omega) (by rw [hal]; omega)]
    go_simp
  have hH0 := Lib.holds_zero0 w 119 (Lib.nDigits u) (by omega)
  have hfmt := Tryd.internal_strconv_formatBase10 w.heap.size 0 24 u (Array.replicate (Lib.nDigits u) 0) (w.alloc (.cells Lib.zeros24 119)) hH0 (by rw [Array.size_replicate]; exact Lib.lt_pow_nDigits u) hu64 (by rw [Array.size_replicate]; omega)
  rw [Array.size_replicate] at hfmt
  have hnum := Tryd.internal_strconv_numDigits u hu1 hu64 _ (Lib.tabIs_alloc hL.tab (.cells Lib.zeros24 119))
  have HH0 := Lib.hid hH0
  have hnil : (bs (Lib.decDigits u)) = ⟨(Lib.decDigits u).toArray⟩ := rfl
  rw [hnil]
  clear hH0 hal hu hui hu1 hnil
  go_enter Tryd.func69, Tryd.ntmps69
  go_wp2_with fail
  refine hnum.mono ?_
  rintro e w' ⟨rfl, rfl⟩
  go_wp2_with fail
  refine hfmt.mono ?_
  rintro e w' ⟨rfl, k, v', dk, rfl, hF⟩
  have hcv : (convert 59 9 (.slice (some ⟨w.heap.size, 0, none⟩) (Lib.nDigits u) 24)).run Tryd.prog ((putRow (fun (b : UInt8) => Value.int .u8 (b.toNat : Int)) (w.alloc (.cells Lib.zeros24 119)) w.heap.size 0 dk).drewN k) = .ok (.string ⟨(Lib.decDigits u).toArray⟩) ((putRow (fun (b : UInt8) => Value.int .u8 (b.toNat : Int)) (w.alloc (.cells Lib.zeros24 119)) w.heap.size 0 dk).drewN k) := by
    have h := run_convert_bytes_back (P := Tryd.prog) ((putRow (fun (b : UInt8) => Value.int .u8 (b.toNat : Int)) (w.alloc (.cells Lib.zeros24 119)) w.heap.size 0 dk).drewN k) 59 9 5 ⟨w.heap.size, 0, none⟩ 24 (Lib.decDigits u) Tryd.underlying59 Tryd.underlying5 Tryd.underlying9 (fun j hj => by
      rw [Lib.row_is_numeral hF j hj, Lib.add_plain, World.cell?_drewN]
      exact cell?_putRow (fun (b : UInt8) => Value.int .u8 (b.toNat : Int)) _ w.heap.size 0 _ dk HH0.out (by rw [hF.size, Array.size_replicate]) j (by rw [hF.size]; rw [Lib.decDigits_length] at hj; exact hj))
    rw [Lib.decDigits_length] at h
    exact h
  go_wp2_with fail
  go_ret
  exact ⟨rfl, fin_posP _ _ _ _⟩

set_option maxHeartbeats 1000000 in
theorem fmtUint63 (w : World) (hL : LaidP w) :
    Calls Tryd.prog 59 #[.int .u64 9223372036854775808, .int .i64 10] w fun e w' => e = .returned (.string (bs (Lib.decDigits 9223372036854775808))) ∧ Below w.heap.size w w' := by
  have hq := fmtUint63i w hL
  generalize bs (Lib.decDigits 9223372036854775808) = S at *
  go_enter Tryd.func59, Tryd.ntmps59
  go_wp2_with fail
  refine hq.mono ?_
  rintro e w1 ⟨rfl, hb⟩
  go_wp2_with fail
  go_ret
  exact ⟨rfl, hb⟩

set_option maxHeartbeats 1000000 in
theorem priSigned (n : Int) (h0 : -9223372036854775808 ≤ n) (h1 : n ≤ 9223372036854775807) (w : World) (hL : LaidP w) :
    Calls Tryd.prog 58 #[.int .i64 n] w fun e w' => e = .returned (.string (bs (Lib.itoa n))) ∧ Below w.heap.size w w' := by
  have hq := Tryd.strconv_FormatInt_10 n h0 h1 w hL.tab
  have hnil : (bs (Lib.itoa n)) = ⟨(Lib.itoa n).toArray⟩ := rfl
  rw [hnil]
  generalize (⟨(Lib.itoa n).toArray⟩ : ByteArray) = S at *
  clear h0 h1
  go_enter Tryd.func58, Tryd.ntmps58
  go_wp2_with fail
  refine hq.mono ?_
  rintro e w1 ⟨rfl, k, os, rfl⟩
  go_wp2_with fail
  go_ret
  exact ⟨rfl, below_growP w k os⟩

set_option maxHeartbeats 1000000 in
/-- Number. -/
theorem priNumber (n : Int) (h0 : -9223372036854775808 ≤ n) (h1 : n ≤ 9223372036854775807) (w : World) (hL : LaidP w) :
    Calls Tryd.prog 40 #[.int .i64 n] w fun e w' => e = .returned (.string (bs (numT n))) ∧ Below w.heap.size w w' := by
  by_cases hn : n = -9223372036854775808
  · subst hn
    have hq := fmtUint63 w hL
    rw [show numT (-9223372036854775808) = Lib.decDigits 9223372036854775808 from if_pos rfl]
    generalize bs (Lib.decDigits 9223372036854775808) = S at *
    go_enter Tryd.func40, Tryd.ntmps40
    go_wp2_with fail
    refine hq.mono ?_
    rintro e w1 ⟨rfl, hb⟩
    go_wp2_with fail
    go_ret
    exact ⟨rfl, hb⟩
  · have hq := priSigned n h0 h1 w hL
    have hn2 : (n == -9223372036854775808) = false := by simpa using hn
    rw [show numT n = Lib.itoa n from if_neg hn]
    generalize bs (Lib.itoa n) = S at *
    clear h0 h1 hn
    go_enter Tryd.func40, Tryd.ntmps40
    go_wp2_with fail
    refine hq.mono ?_
    rintro e w1 ⟨rfl, hb⟩
    go_wp2_with fail
    go_ret
    exact ⟨rfl, hb⟩
end

section
open Go.RowKit

/-- Texts, one behind the other. -/
def cat (ts : List (List UInt8)) : List UInt8 := ts.flatten
theorem cat_cons (t : List UInt8) (ts : List (List UInt8)) : cat (t :: ts) = t ++ cat ts := List.flatten_cons
theorem cat_nil : cat [] = [] := rfl
theorem cat_take {ts : List (List UInt8)} {i : Nat} {t : List UInt8} (h : ts[i]? = some t) : cat (ts.take (i + 1)) = cat (ts.take i) ++ t := by
  unfold cat
  rw [List.take_add_one, h]
  simp
theorem cat_le (ts : List (List UInt8)) : ∀ i, (cat (ts.take i)).length ≤ (cat ts).length := by
  induction ts with
  | nil => intro i; simp
  | cons t r ih =>
    intro i
    cases i with
    | zero => simp [cat]
    | succ i =>
      have := ih i
      simp only [List.take_succ_cons, cat_cons, List.length_append]
      omega
theorem strs_get {ts : List (List UInt8)} {i : Nat} {t : List UInt8} (h : ts[i]? = some t) : (strs ts)[i]? = some (.string (bs t)) := by simp [strs, h, bs]

set_option maxHeartbeats 2000000 in
/-- put. -/
theorem priPut (b : Nat) (l : List UInt8) (d : Int) (w W : World) (ts : List (List UInt8)) (g : Nat) (n : Nat) (hn : n = ts.length) (hg : Bk W g (strs ts)) (hgb : g ≠ b) (h : Pr w.heap.size b l d W) (hw : Below w.heap.size w W) (hlen : l.length + (cat ts).length ≤ 140737488355328) (hN : n ≤ 1000) :
    Calls Tryd.prog 46 #[.pointer (some ⟨b, 0, none⟩), .slice (some ⟨g, 0, none⟩) n n] W fun e W' => e = .returned (.tuple #[]) ∧ Wr b (l ++ cat ts) d w W W' := by
  have H0 := Lib.hid (Wr.start h hw)
  have HG := Lib.hid hg
  have HL := Lib.hid hlen
  have HN := Lib.hid hn
  clear h hw hg hlen hn
  go_enter Tryd.func46, Tryd.ntmps46
  go_wp2_with fail
  go_loopw [8] (fun u V => ∃ i : Nat, i ≤ n ∧ u = .int .i64 i ∧ Hid (Wr b (l ++ cat (ts.take i)) d w W V)) (fun u _ => n - (intOf u).toNat)
  case atStart => exact ⟨0, by omega, rfl, by show Wr _ _ _ _ _ _; rw [List.take_zero, cat_nil, List.append_nil]; exact H0.out⟩
  case round =>
    obtain ⟨i, hi, rfl, hr⟩ := hrel
    by_cases hlt : i < n
    · have hlt' : (i : Int) < n := by omega
      have hti : ts[i]? = some ts[i]! := by
        have := HN.out
        rw [getElem!_pos ts i (by omega)]; exact List.getElem?_eq_getElem (by omega)
      obtain ⟨t, ht⟩ : ∃ t, t = ts[i]! := ⟨_, rfl⟩
      rw [← ht] at hti
      have hbk := (hr.out.bk HG.out hgb).cell (strs_get hti)
      have hbk2 : wr.cell? ((⟨g, 0, none⟩ : Addr).add i) = some (.string (bs t)) := by rw [add_at, Nat.zero_add]; exact hbk
      have hq := writeStringP b (l ++ cat (ts.take i)) t d w wr hr.out.pr hr.out.bel (by
        have := cat_le ts (i + 1)
        rw [cat_take hti] at this
        have := HL.out
        simp only [List.length_append] at *
        omega)
      have he : Hid (l ++ cat (ts.take i) ++ t = l ++ cat (ts.take (i + 1))) := by show _ = _; rw [cat_take hti, List.append_assoc]
      clear hti ht
      generalize bs t = s at *
      generalize (t.length : Int) = k at *
      go_wp2_with fail
      refine hq.mono ?_
      rintro e w1 ⟨rfl, hw1⟩
      rw [he.out] at hw1
      have hr2 := Lib.hid (hr.out.trans hw1)
      clear hw1 hq hbk hbk2
      go_wp2_with fail
      exact ⟨⟨i + 1, by omega, by go_num, hr2⟩, by simp [intOf]; omega⟩
    · obtain rfl : i = n := by omega
      have hlt' : ¬ (i : Int) < i := by omega
      have hr2 : Hid (Wr b (l ++ cat ts) d w W wr) := by have := hr.out; rwa [HN.out, List.take_length] at this
      clear hr
      go_wp2_with fail
      go_end0
      exact ⟨rfl, hr2.out⟩

theorem repeat_ahd (c : Nat) : Lib.repeatL [32, 32] c = ahd c := by
  induction c with
  | zero => rfl
  | succ c ih =>
    show [32, 32] ++ Lib.repeatL [32, 32] c = _
    rw [ih]
    show [32, 32] ++ List.replicate (2 * c) 32 = List.replicate (2 * (c + 1)) 32
    rw [show 2 * (c + 1) = 2 * c + 1 + 1 by omega, List.replicate_succ, List.replicate_succ]
    rfl

set_option maxHeartbeats 2000000 in
/-- begin. -/
theorem priBegin (b : Nat) (l : List UInt8) (d : Nat) (w W : World) (ts : List (List UInt8)) (g : Nat) (n : Nat) (hn : n = ts.length) (hg : Bk W g (strs ts)) (hgb : g ≠ b) (h : Pr w.heap.size b l d W) (hw : Below w.heap.size w W) (hlen : l.length + (2 * d + (cat ts).length) ≤ 140737488355328) (hN : n ≤ 1000) :
    Calls Tryd.prog 42 #[.pointer (some ⟨b, 0, none⟩), .slice (some ⟨g, 0, none⟩) n n] W fun e W' => e = .returned (.tuple #[]) ∧ Wr b (l ++ (ahd d ++ cat ts)) d w W W' := by
  have H0 := Lib.hid (Wr.start h hw).drew
  have HG := Lib.hid hg
  have q1 := Lib.hid (fun V => Tryd.strings_Repeat ⟨#[32, 32]⟩ d V (by omega) (by show 2 * d ≤ _; omega))
  have q2 := Lib.hid (fun V (hr : Wr b l d w W V) => writeStringP b l (ahd d) d w V hr.pr hr.bel (by rw [ahd_len]; omega))
  have q3 := Lib.hid (fun V (hr : Wr b (l ++ ahd d) d w W V) => priPut b (l ++ ahd d) d w V ts g n hn (hr.bk HG.out hgb) hgb hr.pr hr.bel (by rw [List.length_append, ahd_len]; omega) hN)
  have hrep : (⟨(Lib.repeatL (⟨#[32, 32]⟩ : ByteArray).data.toList d).toArray⟩ : ByteArray) = bs (ahd d) := by rw [show (⟨#[32, 32]⟩ : ByteArray).data.toList = [32, 32] from rfl, repeat_ahd]; rfl
  rw [hrep] at q1
  have hd : Hid ((((ahd d).length : Nat) : Int) = 2 * (d : Int)) := by show _ = _; rw [ahd_len]; omega
  have hres : Hid (l ++ (ahd d ++ cat ts) = l ++ ahd d ++ cat ts) := by show _ = _; rw [List.append_assoc]
  rw [hres.out]
  clear hn hrep hw hlen hN
  obtain ⟨a, ha⟩ : ∃ a, a = ahd d := ⟨_, rfl⟩
  rw [← ha] at q1 q2 q3 ⊢
  obtain ⟨s, hs⟩ : ∃ s, s = bs a := ⟨_, rfl⟩
  rw [← hs] at q1 q2
  obtain ⟨dd, hdd⟩ : ∃ z : Int, z = d := ⟨_, rfl⟩
  rw [← hdd] at H0 q1 q2 q3 h ⊢
  have s1 := H0.out.pr.depth.1
  have s0 := h.depth.1
  clear ha hs hd hdd hres
  go_enter Tryd.func42, Tryd.ntmps42
  go_wp2_with fail
  go_region_held3 (fun w' => w'.cell? ⟨b, 2, none⟩ = some (.int .i64 dd)) (first | with_reducible exact s0 | with_reducible exact s1 | with_reducible exact s2)
    (first
    | (go_at_call 62
       with_reducible refine (q1.out _).mono ?_
       rintro e9 V1 ⟨rfl, hb1⟩
       have H1 := Lib.hid (H0.out.step hb1)
       have s2 := H1.out.pr.depth.1
       clear hb1)
    | (go_at_call 61
       with_reducible refine (q2.out _ H1.out).mono ?_
       rintro e9 V2 ⟨rfl, hw2⟩
       have H2 := Lib.hid (H1.out.trans hw2)
       have s2 := H2.out.pr.depth.1
       clear hw2))
  clear H1 H0 q1 q2
  go_wp2_with fail
  refine (q3.out _ H2.out).mono ?_
  rintro e V3 ⟨rfl, hw3⟩
  have H3 := Lib.hid (H2.out.trans hw3)
  clear hw3
  go_wp2_with fail
  go_end0
  exact ⟨rfl, H3.out⟩

/-- A row of texts, just made. -/
theorem Wr.row {b : Nat} {l : List UInt8} {d : Int} {w A W : World} (h : Wr b l d w A W) {cs : Array Value} (ts : List (List UInt8)) (hcs : cs = (strs ts).toArray) : Wr b l d w A (W.alloc (.cells cs 9)) ∧ Bk (W.alloc (.cells cs 9)) W.heap.size (strs ts) ∧ W.heap.size ≠ b :=
  ⟨h.alloc _, hcs ▸ Bk.new W (strs ts) 9 (by decide), fun e => by have := h.pr.lt; omega⟩
theorem putNew {b : Nat} {l : List UInt8} {d : Int} {w A W : World} (h : Wr b l d w A W) {cs : Array Value} {n g : Nat} (ts : List (List UInt8)) (hn : n = ts.length) (hcs : cs = (strs ts).toArray) (hgw : g = W.heap.size) (hlen : l.length + (cat ts).length ≤ 140737488355328) (hN : n ≤ 1000) :
    Calls Tryd.prog 46 #[.pointer (some ⟨b, 0, none⟩), .slice (some ⟨g, 0, none⟩) n n] (W.alloc (.cells cs 9)) fun e W' => e = .returned (.tuple #[]) ∧ Wr b (l ++ cat ts) d w A W' := by
  subst hgw
  obtain ⟨h1, h2, h3⟩ := h.row ts hcs
  exact (priPut b l d w _ ts _ n hn h2 h3 h1.pr h1.bel hlen hN).mono fun e W' ⟨he, hw⟩ => ⟨he, h1.trans hw⟩
theorem beginNew {b : Nat} {l : List UInt8} {d : Nat} {w A W : World} (h : Wr b l d w A W) {cs : Array Value} {n g : Nat} (ts : List (List UInt8)) (hn : n = ts.length) (hcs : cs = (strs ts).toArray) (hgw : g = W.heap.size) (hlen : l.length + (2 * d + (cat ts).length) ≤ 140737488355328) (hN : n ≤ 1000) :
    Calls Tryd.prog 42 #[.pointer (some ⟨b, 0, none⟩), .slice (some ⟨g, 0, none⟩) n n] (W.alloc (.cells cs 9)) fun e W' => e = .returned (.tuple #[]) ∧ Wr b (l ++ (ahd d ++ cat ts)) d w A W' := by
  subst hgw
  obtain ⟨h1, h2, h3⟩ := h.row ts hcs
  exact (priBegin b l d w _ ts _ n hn h2 h3 h1.pr h1.bel hlen hN).mono fun e W' ⟨he, hw⟩ => ⟨he, h1.trans hw⟩

set_option maxHeartbeats 2000000 in
/-- end. -/
theorem priEnd {b : Nat} {l : List UInt8} {d : Int} {w A W : World} (h : Wr b l d w A W) (t : List UInt8) {s : ByteArray} (hs : s = bs t) (hlen : l.length + (t.length + 1) ≤ 140737488355328) :
    Calls Tryd.prog 43 #[.pointer (some ⟨b, 0, none⟩), .string s] W fun e W' => e = .returned (.tuple #[]) ∧ Wr b (l ++ (t ++ [10])) d w A W' := by
  have q := putNew h (cs := #[.string s, .string ⟨#[10]⟩]) (n := 2) [t, [10]] rfl (by rw [hs]; rfl) rfl (by rw [cat_cons, cat_cons, cat_nil]; simp only [List.length_append, List.length_cons, List.length_nil]; omega) (by omega)
  rw [cat_cons, cat_cons, cat_nil, List.append_nil] at q
  clear h hs hlen
  go_enter Tryd.func43, Tryd.ntmps43
  go_wp2_with fail
  refine q.mono ?_
  rintro e W1 ⟨rfl, hw⟩
  go_wp2_with fail
  go_end0
  exact ⟨rfl, hw⟩

set_option maxHeartbeats 2000000 in
/-- line. -/
theorem priLine (b : Nat) (l : List UInt8) (d : Nat) (w W : World) (ts : List (List UInt8)) (g : Nat) (n : Nat) (hn : n = ts.length) (hg : Bk W g (strs ts)) (hgb : g ≠ b) (h : Wr b l d w W W) (hlen : l.length + (2 * d + (cat ts).length + 1) ≤ 140737488355328) (hN : n ≤ 1000) :
    Calls Tryd.prog 22 #[.pointer (some ⟨b, 0, none⟩), .slice (some ⟨g, 0, none⟩) n n] W fun e W' => e = .returned (.tuple #[]) ∧ Wr b (l ++ (ahd d ++ (cat ts ++ [10]))) d w W W' := by
  have q1 := priBegin b l d w W ts g n hn hg hgb h.pr h.bel (by omega) hN
  have q2 := Lib.hid (fun V (hr : Wr b (l ++ (ahd d ++ cat ts)) d w W V) => priEnd hr [] (s := ⟨#[]⟩) rfl (by simp only [List.length_append, ahd_len, List.length_nil]; omega))
  have he : l ++ (ahd d ++ cat ts) ++ ([] ++ [10]) = l ++ (ahd d ++ (cat ts ++ [10])) := by simp
  rw [he] at q2
  clear hn hg hgb h hlen hN he
  go_enter Tryd.func22, Tryd.ntmps22
  go_wp2_with fail
  refine q1.mono ?_
  rintro e W1 ⟨rfl, hw⟩
  have q3 := q2.out _ hw
  clear q1 q2 hw
  go_wp2_with fail
  refine q3.mono ?_
  rintro e W2 ⟨rfl, hw⟩
  clear q3
  go_wp2_with fail
  go_end0
  exact ⟨rfl, hw⟩
theorem lineNew {b : Nat} {l : List UInt8} {d : Nat} {w A W : World} (h : Wr b l d w A W) {cs : Array Value} {n g : Nat} (ts : List (List UInt8)) (hn : n = ts.length) (hcs : cs = (strs ts).toArray) (hgw : g = W.heap.size) (hlen : l.length + (2 * d + (cat ts).length + 1) ≤ 140737488355328) (hN : n ≤ 1000) :
    Calls Tryd.prog 22 #[.pointer (some ⟨b, 0, none⟩), .slice (some ⟨g, 0, none⟩) n n] (W.alloc (.cells cs 9)) fun e W' => e = .returned (.tuple #[]) ∧ Wr b (l ++ (ahd d ++ (cat ts ++ [10]))) d w A W' := by
  subst hgw
  obtain ⟨h1, h2, h3⟩ := h.row ts hcs
  exact (priLine b l d w _ ts _ n hn h2 h3 (Wr.start h1.pr h1.bel) hlen hN).mono fun e W' ⟨he, hw⟩ => ⟨he, h1.trans hw⟩
end

section
open Go.RowKit

/-- What is asked of expr for one expression. -/
def PX (e : XV) : Prop := ∀ (b : Nat) (l : List UInt8) (d : Int) (w A W : World) (B : Option Addr) (c : Nat), LaidP w → XR w B e.gs → Wr b l d w A W → l.length + (textX e).length ≤ 140737488355328 →
  Calls Tryd.prog 29 #[.pointer (some ⟨b, 0, none⟩), xval e B c] W fun r W' => r = .returned (.tuple #[]) ∧ Wr b (l ++ textX e) d w A W'
theorem Wr.here {b : Nat} {l : List UInt8} {d : Int} {w A W : World} (h : Wr b l d w A W) : Wr b l d w W W := Wr.start h.pr h.bel
/-- A box just made, beside a printer. -/
theorem Wr.box {b : Nat} {l : List UInt8} {d : Int} {w A W : World} (h : Wr b l d w A W) (vs : List Value) (T : TypeId) (hT : T ≠ 5) : Wr b l d w A (W.alloc (.cells vs.toArray T)) ∧ Bk (W.alloc (.cells vs.toArray T)) W.heap.size vs ∧ W.heap.size ≠ b :=
  ⟨h.alloc _, Bk.new W vs T hT, fun e => by have := h.pr.lt; omega⟩

theorem lev_fin : ∀ k : Fin 21, 0 ≤ lev6 (k.val : Nat) ∧ lev6 (k.val : Nat) ≤ 10 ∧ (k.val ≤ 17 → lev6 (k.val : Nat) ≤ 9) ∧ (18 ≤ k.val → lev6 (k.val : Nat) = 10) := by decide
theorem lev_small (o : Int) : 0 ≤ lev6 o ∧ lev6 o ≤ 10 := by
  by_cases h : 0 ≤ o ∧ o ≤ 20
  · obtain ⟨k, rfl⟩ : ∃ k : Nat, o = k := ⟨o.toNat, by omega⟩
    have := lev_fin ⟨k, by omega⟩
    exact ⟨this.1, this.2.1⟩
  · unfold lev6
    rw [if_neg (by omega)]
    omega
theorem two_one (o oo : Int) (h : 0 ≤ o ∧ o ≤ 17) (h2 : 18 ≤ oo ∧ oo ≤ 20) : lev6 o < lev6 oo := by
  obtain ⟨k, rfl⟩ : ∃ k : Nat, o = k := ⟨o.toNat, by omega⟩
  obtain ⟨j, rfl⟩ : ∃ k : Nat, oo = k := ⟨oo.toNat, by omega⟩
  have h3 := (lev_fin ⟨k, by omega⟩).2.2.1 (by show k ≤ 17; omega)
  have h4 := (lev_fin ⟨j, by omega⟩).2.2.2 (by show 18 ≤ j; omega)
  simp only at h3 h4
  omega

set_option maxHeartbeats 4000000 in
theorem priOperand (e : XV) (hT : PX e) (lv : Int) (q : Bool) (hq : q = true ↔ e.k = 4 ∧ lev6 e.o < lv) (b : Nat) (l : List UInt8) (d : Int) (w A W : World) (B : Option Addr) (c : Nat) (hL : LaidP w) (hx : XR w B e.gs) (h : Wr b l d w A W) (hlen : l.length + (brT q e).length ≤ 140737488355328) :
    Calls Tryd.prog 48 #[.pointer (some ⟨b, 0, none⟩), xval e B c, .int .i64 lv] W fun r W' => r = .returned (.tuple #[]) ∧ Wr b (l ++ brT q e) d w A W' := by
  cases e with
  | mk k n x o gs l' cc =>
  obtain ⟨hA, hb1, hne⟩ := h.box [.int .i64 k, .int .i64 n, .string ⟨x.toArray⟩, .int .i64 o, .slice B gs.length c, .int .i64 l', .int .i64 cc] 32 (by decide)
  have s0 := hb1.box.seven
  have HA := Lib.hid hA
  have H1 := Lib.hid hA.here
  have HL := Lib.hid (hL.ast.words.step hA.bel)
  have hT' := Lib.hid (fun l A W' (hr : Wr b l d w A W') hl => hT b l d w A W' B c hL hx hr hl)
  have HB := Lib.hid hb1
  obtain ⟨t, ht⟩ : ∃ t, t = textX (.mk k n x o gs l' cc) := ⟨_, rfl⟩
  unfold brT at *
  rw [← ht] at hT' hlen ⊢
  unfold xval at *
  simp only [XV.k, XV.n, XV.x, XV.o, XV.gs, XV.l, XV.c] at *
  clear hT hL hx h hA hb1 ht
  generalize (⟨x.toArray⟩ : ByteArray) = xs at *
  generalize gs.length = m at *
  obtain ⟨z, hz⟩ : ∃ z, z = lev6 o := ⟨_, rfl⟩
  rw [← hz] at hq
  have HV := Lib.hid hz.symm
  clear hz
  have HQ := Lib.hid hq
  have HLen := Lib.hid hlen
  by_cases hk : k = 4
  · subst hk
    by_cases hlt : z < lv
    · have hge : (lv ≤ z) = False := by simp; omega
      have hqt : q = true := hq.2 ⟨rfl, hlt⟩
      subst hqt
      have he : Hid (l ++ [40] ++ t ++ [41] = l ++ (40 :: (t ++ [41]))) := by show _ = _; simp
      have hLen : Hid (l.length + (t.length + 2) ≤ 140737488355328) := by show _ ≤ _; simpa using hlen
      rw [if_pos rfl]
      clear hlt hlen hq HLen HQ
      go_enter Tryd.func48, Tryd.ntmps48
      go_wp2_with fail
      refine (astLevel o _ HL.out).mono ?_
      rintro e w' ⟨rfl, rfl⟩
      rw [HV.out]
      go_wp2_with fail
      refine (putNew (cs := #[.string ⟨#[40]⟩]) (n := 1) H1.out [[40]] rfl rfl (by simp) (by have := hLen.out; simp [cat]; omega) (by omega)).mono ?_
      rintro e W2 ⟨rfl, hw2⟩
      have H2 := Lib.hid hw2
      have s2 := (hw2.bk HB.out hne).box.seven
      clear hw2 s0
      go_wp2_with fail
      refine (hT'.out _ _ _ H2.out (by have := hLen.out; simp [cat]; omega)).mono ?_
      rintro e W3 ⟨rfl, hw3⟩
      have H3 := Lib.hid hw3
      clear hw3 s2
      go_wp2_with fail
      refine (putNew (cs := #[.string ⟨#[41]⟩]) (n := 1) H3.out [[41]] rfl rfl rfl (by have := hLen.out; simp [cat]; omega) (by omega)).mono ?_
      rintro e W4 ⟨rfl, hw4⟩
      have H4 := Lib.hid (HA.out.trans hw4)
      clear hw4
      go_wp2_with fail
      go_end0
      exact ⟨rfl, by rw [← he.out]; exact H4.out⟩
    · have hge : (lv ≤ z) = True := by simp; omega
      have hqt : q = false := by rw [Bool.eq_false_iff]; exact fun e => hlt (hq.1 e).2
      subst hqt
      clear hlt hq HQ hlen
      go_enter Tryd.func48, Tryd.ntmps48
      go_wp2_with fail
      refine (astLevel o _ HL.out).mono ?_
      rintro e w' ⟨rfl, rfl⟩
      rw [HV.out]
      go_wp2_with fail
      refine (hT'.out _ _ _ HA.out (by have := HLen.out; simpa using this)).mono ?_
      rintro e W3 ⟨rfl, hw3⟩
      have H3 := Lib.hid hw3
      clear hw3 s0
      go_wp2_with fail
      refine bodyPost_ret (results_none rfl _ _ _) rfl ?_
      exact ⟨rfl, H3.out⟩
  · have hqt : q = false := by rw [Bool.eq_false_iff]; exact fun e => hk (hq.1 e).1
    subst hqt
    have hk2 : (k != 4) = true := by simpa using hk
    clear hq HQ hlen hk
    go_enter Tryd.func48, Tryd.ntmps48
    go_wp2_with fail
    refine (hT'.out _ _ _ HA.out (by have := HLen.out; simpa using this)).mono ?_
    rintro e W3 ⟨rfl, hw3⟩
    have H3 := Lib.hid hw3
    clear hw3 s0
    go_wp2_with fail
    refine bodyPost_ret (results_none rfl _ _ _) rfl ?_
    exact ⟨rfl, H3.out⟩
end
end Go.Proofs.YtejifkeeihkcjaaDoor
