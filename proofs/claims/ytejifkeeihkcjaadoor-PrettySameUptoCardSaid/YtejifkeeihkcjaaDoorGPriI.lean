/- stmts. -/
import Derived.Test.YtejifkeeihkcjaaDoorGPriF
import Derived.Deep.RegionHeld3
import Derived.Laws.EntriesVeiled
namespace Go.Proofs.YtejifkeeihkcjaaDoor
section
open Go.RowKit

/-- A statement's function, by its kind. -/
def fnS (k : Nat) : FuncId := if k = 0 then 49 else if k = 1 then 50 else if k = 2 then 51 else if k = 3 then 52 else if k = 4 then 53 else if k = 5 then 54 else 55
def fns : List Value := [.func (.func 49) #[] #[], .func (.func 50) #[] #[], .func (.func 51) #[] #[], .func (.func 52) #[] #[], .func (.func 53) #[] #[], .func (.func 54) #[] #[], .func (.func 55) #[] #[]]
theorem fns_get (k : Nat) (h : k < 7) : fns[k]? = some (.func (.func (fnS k)) #[] #[]) := by
  match k, h with
  | 0, _ => rfl
  | 1, _ => rfl
  | 2, _ => rfl
  | 3, _ => rfl
  | 4, _ => rfl
  | 5, _ => rfl
  | 6, _ => rfl
theorem fns_enter (k : Nat) (h : k < 7) : ∀ args w, (callFunc (fnS k) args).run Tryd.prog w = .ok (.enter (fnS k) args) w := by
  match k, h with
  | 0, _ => exact enters_of Tryd.func49 (by kernel_rfl) rfl
  | 1, _ => exact enters_of Tryd.func50 (by kernel_rfl) rfl
  | 2, _ => exact enters_of Tryd.func51 (by kernel_rfl) rfl
  | 3, _ => exact enters_of Tryd.func52 (by kernel_rfl) rfl
  | 4, _ => exact enters_of Tryd.func53 (by kernel_rfl) rfl
  | 5, _ => exact enters_of Tryd.func54 (by kernel_rfl) rfl
  | 6, _ => exact enters_of Tryd.func55 (by kernel_rfl) rfl
theorem rs_kind {s : SV} (h : RS s) : ∃ k : Nat, s.k = k ∧ k < 7 := by
  cases h
  · exact ⟨0, rfl, by omega⟩
  · exact ⟨1, rfl, by omega⟩
  · exact ⟨2, rfl, by omega⟩
  · exact ⟨3, rfl, by omega⟩
  · exact ⟨4, rfl, by omega⟩
  · exact ⟨5, rfl, by omega⟩
  · exact ⟨6, rfl, by omega⟩
theorem priOne {s : SV} {k : Nat} (hk : s.k = k) (hs : RS s) (hi : inS s = true) (hT : PBl s.ts) (hU : PBl s.us) (hn : xsz s.es ≤ 4000000) : PSf (fnS k) s := by
  have ie := inS_es hi
  cases hs with
  | assign x e l c hx hX =>
    obtain rfl : k = 0 := by have : (0 : Int) = k := hk; omega
    exact priAssign x e l c hX (ie e (by simp [SV.es]))
  | store x i e l c hx hI hX =>
    obtain rfl : k = 1 := by have : (1 : Int) = k := hk; omega
    exact priStore x i e l c hI (ie i (by simp [SV.es])) hX (ie e (by simp [SV.es]))
  | iff e ts us l c hX ht hu =>
    obtain rfl : k = 2 := by have : (2 : Int) = k := hk; omega
    exact priChoice e ts us l c hX (ie e (by simp [SV.es])) ht hu hT hU
  | wh e ts l c hX ht =>
    obtain rfl : k = 3 := by have : (3 : Int) = k := hk; omega
    exact priWhile e ts l c hX (ie e (by simp [SV.es])) ht hT
  | out e l c hX =>
    obtain rfl : k = 4 := by have : (4 : Int) = k := hk; omega
    exact priOutput e l c hX (ie e (by simp [SV.es]))
  | call x es l c hx hX =>
    obtain rfl : k = 5 := by have : (5 : Int) = k := hk; omega
    have := xsz_len es
    exact priCall x es l c hX ie (by simp only [SV.es] at hn; omega)
  | skip l c =>
    obtain rfl : k = 6 := by have : (6 : Int) = k := hk; omega
    exact priSkip l c
theorem linesB_le {ls : List SV} (hr : ∀ s ∈ ls, RS s) (d : Nat) : ∀ k i, i + k = ls.length → (linesB (ls.take i) d).length ≤ (linesB ls d).length
  | 0, i, h => by rw [List.take_of_length_le (by omega)]; exact Nat.le_refl _
  | k + 1, i, h => by
    have h1 := linesB_le hr d k (i + 1) (by omega)
    rw [linesB_take hr (List.getElem?_eq_getElem (show i < ls.length by omega)), List.length_append] at h1
    omega

set_option maxRecDepth 100000 in
set_option maxHeartbeats 8000000 in
theorem priStmts (N : Nat) : ∀ ls : List SV, ssz ls ≤ N → (∀ s ∈ ls, RS s) → inSs ls = true → PBl ls := by
  induction N using Nat.strongRecOn with
  | ind N ih =>
  intro ls hN hr hi b l d w A W A1 c1 hL hx h0 hd hlen
  have hlz := ssz_len ls
  obtain ⟨n, hn⟩ : ∃ n, n = ls.length := ⟨_, rfl⟩
  rw [← hn] at hlz ⊢
  obtain ⟨hA, hb1, hne⟩ := h0.box fns 96 (by decide)
  have HA := Lib.hid hA
  have H1 := Lib.hid hA.here
  have HB := Lib.hid hb1
  have HX := Lib.hid hx
  have HN := Lib.hid hn
  have HW := Lib.hid hL
  have HLen := Lib.hid hlen
  have hle := Lib.hid (fun i (h : i ≤ n) => linesB_le hr d (n - i) i (by omega))
  have hall : Hid (linesB (ls.take n) d = linesB ls d) := by show _ = _; rw [hn, List.take_length]
  have hone := Lib.hid (fun i (s : SV) (hs : ls[i]? = some s) => by
    have hm := List.mem_iff_getElem?.2 ⟨i, hs⟩
    have hz := ssz_get hs
    have hze := ssz1_eq s
    have his := inSs_get hi hs
    have hrs := hr s hm
    obtain ⟨k, hk, hk7⟩ := rs_kind hrs
    have hrt : (∀ a ∈ s.ts, RS a) ∧ ∀ a ∈ s.us, RS a := by
      cases hrs with
      | iff e ts us l c hX ht hu => exact ⟨ht, hu⟩
      | wh e ts l c hX ht => exact ⟨ht, fun a ha => by simp [SV.us] at ha⟩
      | _ => exact ⟨fun a ha => by simp [SV.ts] at ha, fun a ha => by simp [SV.us] at ha⟩
    have hT : PBl s.ts := ih (ssz s.ts) (by omega) s.ts (Nat.le_refl _) hrt.1 (inS_ts his)
    have hU : PBl s.us := ih (ssz s.us) (by omega) s.us (Nat.le_refl _) hrt.2 (inS_us his)
    exact (⟨k, hk, hk7, priOne hk hrs his hT hU (by omega), by omega⟩ : ∃ k : Nat, s.k = k ∧ k < 7 ∧ PSf (fnS k) s ∧ d + ssz1 s ≤ 4000000))
  have HR := Lib.hid hr
  clear hL hx h0 hlen hA hb1 hr hi ih hn
  go_enter Tryd.func32, Tryd.ntmps32
  go_wp2_with fail
  go_loopw [10] (fun u V => ∃ i : Nat, i ≤ n ∧ u = .int .i64 i ∧ Hid (Wr b (l ++ linesB (ls.take i) d) d w (W.alloc (.cells fns.toArray 96)) V)) (fun u _ => n - (intOf u).toNat)
  case atStart => exact ⟨0, by omega, rfl, by show Wr _ _ _ _ _ _; rw [List.take_zero, linesB_nil, List.append_nil]; exact H1.out⟩
  case round =>
    obtain ⟨i, hi, rfl, hb⟩ := hrel
    by_cases hlt : i < n
    · have hlt' : (i : Int) < n := by omega
      obtain ⟨ad, s, rfl, he', A2, c2, A3, c3, A4, c4, e0, e1, e2, e3, e4, e5, e6, hx2, hx3, hx4⟩ := SR.el HX.out (i := i) (by rw [← HN.out]; exact hlt)
      obtain ⟨k, hk, hk7, hS, hdz⟩ := hone.out i s he'
      have htk := Lib.hid (linesB_take HR.out he' d)
      have hl1 := hle.out (i + 1) (by omega)
      rw [htk.out, List.length_append] at hl1
      obtain ⟨t, ht⟩ : ∃ t, t = lineS s d := ⟨_, rfl⟩
      have hT := Lib.hid (fun l A W' (hr : Wr b l d w A W') hl => hS b l d w A W' A2 c2 A3 c3 A4 c4 HW.out hx2 hx3 hx4 hr hdz hl)
      rw [← ht] at htk hl1 hT
      have HL1 := Lib.hid hl1
      have bel := hb.out.bel
      have g0 := cst5 bel e0
      have g1 := cst5 bel e1
      have g2 := cst5 bel e2
      have g3 := cst5 bel e3
      have g4 := cst5 bel e4
      have g5 := cst5 bel e5
      have g6 := cst5 bel e6
      have hfk := (hb.out.bk HB.out hne).cell (fns_get k hk7)
      obtain ⟨hA3, hb3, hne3⟩ := hb.out.box [.int .i64 s.k, .string ⟨s.x.toArray⟩, .slice A2 s.es.length c2, .slice A3 s.ts.length c3, .slice A4 s.us.length c4, .int .i64 s.l, .int .i64 s.c] 37 (by decide)
      have HA3 := Lib.hid hA3
      have H3 := Lib.hid hA3.here
      have s3 := hb3.box.seven
      unfold sval at hT
      rw [hk] at g0 s3 H3 HA3 hT hb3
      replace hb3 := Lib.hid hb3
      clear hl1 ht hA3 bel e0 e1 e2 e3 e4 e5 e6 hx2 hx3 hx4 hS hdz he'
      generalize (⟨s.x.toArray⟩ : ByteArray) = xs at *
      generalize s.es.length = m1 at *
      generalize s.ts.length = m2 at *
      generalize s.us.length = m3 at *
      generalize s.l = sl at *
      generalize s.c = sc at *
      have hfg := Lib.hid (fns_get k hk7)
      have efn := fns_enter k hk7
      generalize fnS k = fn at *
      have hk7' : (k : Int) < 7 := by omega
      have HF := Lib.hid ((hb.out.bk HB.out hne).alloc (.cells #[.int .i64 (k : Int), .string xs, .slice A2 m1 c2, .slice A3 m2 c3, .slice A4 m3 c4, .int .i64 sl, .int .i64 sc] 37))
      go_wp2_with fail
      have H4 := Lib.hid H3.out.drew
      have z0 := And.intro (HF.out.drew.cell hfg.out) hb3.out.drew.box.seven
      clear s3 hfk
      go_region_held3 (fun w' => w'.cell? ⟨W.heap.size, k, none⟩ = some (.func (.func fn) #[] #[]) ∧ w'.cell? ⟨wr.heap.size, 0, none⟩ = some (.int .i64 (k : Int)) ∧ w'.cell? ⟨wr.heap.size, 1, none⟩ = some (.string xs) ∧ w'.cell? ⟨wr.heap.size, 2, none⟩ = some (.slice A2 m1 c2) ∧ w'.cell? ⟨wr.heap.size, 3, none⟩ = some (.slice A3 m2 c3) ∧ w'.cell? ⟨wr.heap.size, 4, none⟩ = some (.slice A4 m3 c4) ∧ w'.cell? ⟨wr.heap.size, 5, none⟩ = some (.int .i64 sl) ∧ w'.cell? ⟨wr.heap.size, 6, none⟩ = some (.int .i64 sc)) (first | with_reducible exact z0 | with_reducible exact z1)
        (first
        | (with_reducible refine (hT.out _ _ _ H4.out (by have := HLen.out; have := HL1.out; rw [List.length_append]; omega)).mono ?_
           rintro e9 V1 ⟨rfl, hw1⟩
           have H5 := Lib.hid hw1
           have z1 := And.intro ((hw1.bk HF.out hne).cell hfg.out) (hw1.bk hb3.out hne3).box.seven
           clear hw1))
      clear z0 z1
      have H6 : Hid (Wr b (l ++ linesB (ls.take (i + 1)) d) d w (W.alloc (.cells fns.toArray 96)) V1) := by
        show Wr _ _ _ _ _ _
        rw [htk.out, ← List.append_assoc]
        exact HA3.out.trans H5.out
      clear H5 H4 HF hb3
      go_wp2_with fail
      exact ⟨⟨i + 1, by omega, by go_num, H6⟩, by simp [intOf]; omega⟩
    · obtain rfl : i = n := by omega
      have hlt' : ¬ (i : Int) < i := by omega
      have hb2 := Lib.hid (HA.out.trans hb.out)
      rw [hall.out] at hb2
      clear hb
      go_wp2_with fail
      go_end0
      exact ⟨rfl, hb2.out⟩
end
end Go.Proofs.YtejifkeeihkcjaaDoor
