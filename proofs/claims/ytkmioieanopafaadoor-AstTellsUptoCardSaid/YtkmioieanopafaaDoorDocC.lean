/- The docs' count of trees: parts, many: that they answer. -/
import Derived.Test.YtkmioieanopafaaDoorDocB
namespace Go.Proofs.YtkmioieanopafaaDoor
open Go.RowKit

set_option maxRecDepth 100000 in
set_option maxHeartbeats 4000000 in
theorem docsParts (N : Nat) : ∀ (es : List XV), xsz es ≤ N → N ≤ 4000000 → ∀ (A : Option Addr) (c : Nat) (most deep : Int) (w : World), XR w A es → Calls Tryd.prog 84 #[.slice A es.length c, .int .i64 most, .int .i64 deep] w fun e w' => (∃ r, e = .returned (.int .i64 r)) ∧ w' = w := by
  induction N using Nat.strongRecOn with
  | ind N ih =>
  intro es hN hNN A c most deep w hx
  have hlen := xsz_len es
  obtain ⟨n, hn⟩ : ∃ n, n = es.length := ⟨_, rfl⟩
  have hx2 := Lib.hid hx
  rw [← hn]
  rw [← hn] at hlen
  have HN := Lib.hid hn
  have hn0 : (0 : Int) ≤ n := by omega
  obtain ⟨dd, hdd⟩ : ∃ dd, IntKind.i64.wrap (deep - 1) = dd := ⟨_, rfl⟩
  clear hn hx
  by_cases hd : deep ≤ 0
  · by_cases hz : 0 < (n : Int)
    · go_enter Tryd.func84, Tryd.ntmps84
      go_wp2_with fail
      go_ret
      first | exact ⟨⟨_, rfl⟩, rfl⟩ | exact ⟨_, rfl⟩ | skip
    · go_enter Tryd.func84, Tryd.ntmps84
      go_wp2_with fail
      go_loopw [7, 8] (fun v u W => ∃ i : Nat, i ≤ n ∧ u = .int .i64 i ∧ (∃ x : Int, v = .int .i64 x) ∧ W = w) (fun _ u _ => n - (intOf u).toNat)
      case atStart => exact ⟨0, by omega, rfl, ⟨0, rfl⟩, rfl⟩
      case round =>
        obtain ⟨i, hi, rfl, ⟨x, rfl⟩, rfl⟩ := hrel
        by_cases hlt : i < n
        · have hlt' : (i : Int) < n := by omega
          exact absurd hlt' (by omega)
        · obtain rfl : i = n := by omega
          have hlt' : ¬ (i : Int) < i := by omega
          go_wp2_with fail
          go_ret
          first | exact ⟨⟨_, rfl⟩, rfl⟩ | exact ⟨_, rfl⟩ | skip
  · go_enter Tryd.func84, Tryd.ntmps84
    go_wp2_with fail
    go_loopw [7, 8] (fun v u W => ∃ i : Nat, i ≤ n ∧ u = .int .i64 i ∧ (∃ x : Int, v = .int .i64 x) ∧ W = w) (fun _ u _ => n - (intOf u).toNat)
    case atStart => exact ⟨0, by omega, rfl, ⟨0, rfl⟩, rfl⟩
    case round =>
      obtain ⟨i, hi, rfl, ⟨x, rfl⟩, rfl⟩ := hrel
      by_cases hlt : i < n
      · have hlt' : (i : Int) < n := by omega
        by_cases hm : x ≤ most
        · obtain ⟨ad, e, A', c', rfl, he, hc, hx'⟩ := hx2.out.args (i := i) (by rw [← HN.out]; exact hlt)
          have hsz := xsz_get he
          rw [xsz1_eq] at hsz
          have hq := ih (xsz e.gs) (by omega) e.gs (Nat.le_refl _) (by omega) A' c' most dd wr hx'
          clear he hx' hsz
          generalize e.gs.length = m at *
          go_wp2_with fail
          refine hq.mono ?_
          rintro e1 w1 ⟨⟨r, rfl⟩, rfl⟩
          go_wp2_with fail
          exact ⟨⟨i + 1, by omega, by go_num, ⟨_, rfl⟩, by first | rfl | trivial⟩, by simp [intOf]; omega⟩
        · go_wp2_with fail
          go_ret
          first | exact ⟨⟨_, rfl⟩, rfl⟩ | exact ⟨_, rfl⟩ | skip
      · obtain rfl : i = n := by omega
        have hlt' : ¬ (i : Int) < i := by omega
        go_wp2_with fail
        go_ret
        first | exact ⟨⟨_, rfl⟩, rfl⟩ | exact ⟨_, rfl⟩ | skip

set_option maxRecDepth 100000 in
set_option maxHeartbeats 8000000 in
theorem docsMany (N : Nat) : ∀ (l : List SV), ssz l ≤ N → N ≤ 4000000 → ∀ (A : Option Addr) (c : Nat) (most deep : Int) (w : World), SR w A l → Calls Tryd.prog 49 #[.slice A l.length c, .int .i64 most, .int .i64 deep] w fun e w' => (∃ r, e = .returned (.int .i64 r)) ∧ Below w.heap.size w w' := by
  induction N using Nat.strongRecOn with
  | ind N ih =>
  intro l hN hNN A c most deep w hx
  have hlen := ssz_len l
  obtain ⟨n, hn⟩ : ∃ n, n = l.length := ⟨_, rfl⟩
  have hx2 := Lib.hid hx
  rw [← hn]
  rw [← hn] at hlen
  have HN := Lib.hid hn
  have hn0 : (0 : Int) ≤ n := by omega
  obtain ⟨dd, hdd⟩ : ∃ dd, IntKind.i64.wrap (deep - 1) = dd := ⟨_, rfl⟩
  clear hn hx
  by_cases hd : deep = 0
  · by_cases hz : 0 < (n : Int)
    · go_enter Tryd.func49, Tryd.ntmps49
      go_wp2_with fail
      go_ret
      first | exact ⟨⟨_, rfl⟩, Below.refl _ _⟩ | exact Below.refl _ _
    · go_enter Tryd.func49, Tryd.ntmps49
      go_wp2_with fail
      go_loopw [7, 8] (fun v u W => ∃ i : Nat, i ≤ n ∧ u = .int .i64 i ∧ (∃ x : Int, v = .int .i64 x) ∧ Hid (Below w.heap.size w W)) (fun _ u _ => n - (intOf u).toNat)
      case atStart => exact ⟨0, by omega, rfl, ⟨0, rfl⟩, Below.refl _ _⟩
      case round =>
        obtain ⟨i, hi, rfl, ⟨x, rfl⟩, hbw⟩ := hrel
        by_cases hlt : i < n
        · have hlt' : (i : Int) < n := by omega
          exact absurd hlt' (by omega)
        · obtain rfl : i = n := by omega
          have hlt' : ¬ (i : Int) < i := by omega
          go_wp2_with fail
          go_ret
          first | exact ⟨⟨_, rfl⟩, hbw.out⟩ | exact hbw.out
  · go_enter Tryd.func49, Tryd.ntmps49
    go_wp2_with fail
    go_loopw [7, 8] (fun v u W => ∃ i : Nat, i ≤ n ∧ u = .int .i64 i ∧ (∃ x : Int, v = .int .i64 x) ∧ Hid (Below w.heap.size w W)) (fun _ u _ => n - (intOf u).toNat)
    case atStart => exact ⟨0, by omega, rfl, ⟨0, rfl⟩, Below.refl _ _⟩
    case round =>
      obtain ⟨i, hi, rfl, ⟨x, rfl⟩, hbw⟩ := hrel
      by_cases hlt : i < n
      · have hlt' : (i : Int) < n := by omega
        by_cases hm : x ≤ most
        · obtain ⟨ad, e, A1, c1, A2, c2, A3, c3, rfl, he, hk⟩ := (hx2.out.step hbw.out).kb (i := i) (by rw [← HN.out]; exact hlt)
          have hsz := ssz_get he
          rw [ssz1_eq] at hsz
          have k0 := Lib.hid (hk.step (Below.refl wr.heap.size wr).drew)
          have qx := docsParts (xsz e.es) e.es (Nat.le_refl _) (by omega) A1 c1 most dd wr.drew k0.out.x
          have q1 := ih (ssz e.ts) (by omega) e.ts (Nat.le_refl _) (by omega) A2 c2 most dd wr.drew k0.out.t
          have q2 := Lib.hid (fun W (h : SR W A3 e.us) => ih (ssz e.us) (by omega) e.us (Nat.le_refl _) (by omega) A3 c3 most dd W h)
          have s0 := k0.out.c
          clear he hsz hk
          go_wp2_with fail
          go_region_held3 (fun w' => w'.cell? ⟨(ad.add (i * 7)).block, (ad.add (i * 7)).off + 2, none⟩ = some (.slice A1 e.es.length c1) ∧ w'.cell? ⟨(ad.add (i * 7)).block, (ad.add (i * 7)).off + 3, none⟩ = some (.slice A2 e.ts.length c2) ∧ w'.cell? ⟨(ad.add (i * 7)).block, (ad.add (i * 7)).off + 4, none⟩ = some (.slice A3 e.us.length c3)) (first | with_reducible exact s0 | with_reducible exact s1 | with_reducible exact s2)
            (first
              | (go_at_call 84
                 with_reducible refine qx.mono ?_
                 rintro e1 w1 ⟨⟨r1, rfl⟩, rfl⟩)
              | (go_at_call 49
                 with_reducible refine q1.mono ?_
                 rintro e1 w1 ⟨⟨r2, rfl⟩, hw1⟩
                 have k1 := Lib.hid (k0.out.step hw1)
                 have s1 := k1.out.c
                 have q3 := q2.out w1 k1.out.u)
              | (go_at_call 49
                 with_reducible refine q3.mono ?_
                 rintro e1 w2 ⟨⟨r3, rfl⟩, hw2⟩
                 have k2 := Lib.hid (k1.out.step hw2)
                 have s2 := k2.out.c))
          go_wp2_with fail
          exact ⟨⟨i + 1, by omega, by go_num, ⟨_, rfl⟩, bth5 hbw.out k2.out.b⟩, by simp [intOf]; omega⟩
        · go_wp2_with fail
          go_ret
          first | exact ⟨⟨_, rfl⟩, hbw.out⟩ | exact hbw.out
      · obtain rfl : i = n := by omega
        have hlt' : ¬ (i : Int) < i := by omega
        go_wp2_with fail
        go_ret
        first | exact ⟨⟨_, rfl⟩, hbw.out⟩ | exact hbw.out
end Go.Proofs.YtkmioieanopafaaDoor
