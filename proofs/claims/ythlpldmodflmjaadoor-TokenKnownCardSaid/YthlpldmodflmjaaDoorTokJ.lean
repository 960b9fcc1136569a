/- The reference's Right, Same, Join of layer 5. -/
import Derived.Test.YthlpldmodflmjaaDoorTokI
namespace Go.Proofs.YthlpldmodflmjaaDoor
open Go.RowKit

/-- Is a token right? -/
def rightV (t : TokV) : Bool :=
  if t.k = 0 then isWordB t.x && decide (t.x.length ≤ 32) && decide (t.n = 0)
  else if t.k = 1 then isIntB t.x && (numV t.x).2 && decide (t.n = (numV t.x).1)
  else if t.k = 2 then isSignB t.x && decide (t.n = 0)
  else decide (t.k = 3) && decide (t.x = []) && decide (t.n = 0)
/-- Are two the same, but for positions? -/
def sameV (a b : TokV) : Bool := decide (a.k = b.k) && decide (a.x = b.x) && decide (a.n = b.n)

set_option maxHeartbeats 4000000 in
theorem refRight (k : Int) (x : List UInt8) (n l c : Int) (hx : x.length ≤ 100000) (w : World) : Calls Tryd.prog 17 #[.agg #[.int .i64 k, .string ⟨x.toArray⟩, .int .i64 n, .int .i64 l, .int .i64 c]] w fun e w' => e = .returned (.bool (rightV ⟨k, x, n, l, c⟩)) ∧ Below w.heap.size w w' := by
  obtain ⟨R, hR⟩ : ∃ R, R = rightV ⟨k, x, n, l, c⟩ := ⟨_, rfl⟩
  rw [← hR]
  unfold rightV at hR
  simp only at hR
  have HR := Lib.hid hR
  clear hR
  obtain ⟨xs, hxs⟩ : ∃ xs : ByteArray, xs = ⟨x.toArray⟩ := ⟨_, rfl⟩
  rw [← hxs]
  have hxl : xs.data.toList = x := by rw [hxs]
  have hsz : xs.size = x.length := by rw [← size_len_, hxl]
  have q1 := fun w => refIsWord xs (by omega) w
  have q2 := fun w => refIsInt xs (by omega) w
  have q3 := fun w => refIsSign xs w
  have q4 := fun w => refNumber xs (by omega) w
  rw [hxl] at q1 q2 q3 q4
  have hb := Box.new w [.int .i64 k, .string xs, .int .i64 n, .int .i64 l, .int .i64 c] 40
  have hbw := bnew5 w (.cells #[.int .i64 k, .string xs, .int .i64 n, .int .i64 l, .int .i64 c] 40)
  have hb : Box (w.alloc (.cells #[.int .i64 k, .string xs, .int .i64 n, .int .i64 l, .int .i64 c] 40)) w.heap.size [.int .i64 k, .string xs, .int .i64 n, .int .i64 l, .int .i64 c] := hb
  clear hxs
  by_cases k0 : k = 0
  · subst k0
    rw [if_pos rfl] at HR
    clear q2 q3 q4
    generalize isWordB x = b1 at *
    have c0 := (hb 0 _ rfl).1
    have c1 := (hb 1 _ rfl).1
    have c2 := (hb 2 _ rfl).1
    go_enter Tryd.func17, Tryd.ntmps17
    go_wp2_with fail
    refine (q1 _).mono ?_
    rintro e w1 ⟨rfl, rfl⟩
    cases b1 with
    | false =>
      have hv : Hid (R = false) := HR.out.trans (by simp)
      clear HR
      go_wp2_with fail
      go_ret
      exact ⟨by rw [hv.out]; rfl, hbw⟩
    | true =>
      by_cases h32 : x.length ≤ 32
      · have h32' : (xs.size : Int) ≤ 32 := by omega
        by_cases hn : n = 0
        · have hv : Hid (R = true) := HR.out.trans (by simp [h32, hn])
          subst hn
          clear HR
          go_wp2_with fail
          go_ret
          exact ⟨by rw [hv.out]; rfl, hbw⟩
        · have hv : Hid (R = false) := HR.out.trans (by simp [hn])
          have hn' : (n == 0) = false := by simp [hn]
          clear HR
          go_wp2_with fail
          go_ret
          exact ⟨by rw [hv.out]; first | rfl | simp [hn], hbw⟩
      · have h32' : ¬ (xs.size : Int) ≤ 32 := by omega
        have hv : Hid (R = false) := HR.out.trans (by simp [h32])
        clear HR
        go_wp2_with fail
        go_ret
        exact ⟨by rw [hv.out]; rfl, hbw⟩
  · by_cases k1 : k = 1
    · subst k1
      rw [if_neg (by decide), if_pos rfl] at HR
      clear q1 q3
      generalize isIntB x = b1 at *
      obtain ⟨N, ok, hN⟩ : ∃ N ok, numV x = (N, ok) := ⟨_, _, rfl⟩
      rw [hN] at HR q4
      simp only at HR q4
      clear hN
      have c0 := (hb 0 _ rfl).1
      have c1 := (hb 1 _ rfl).1
      have c2 := (hb 2 _ rfl).1
      go_enter Tryd.func17, Tryd.ntmps17
      go_wp2_with fail
      refine (q4 _).mono ?_
      rintro e w1 ⟨rfl, rfl⟩
      go_wp2_with fail
      refine (q2 _).mono ?_
      rintro e w2 ⟨rfl, rfl⟩
      cases b1 with
      | false =>
        have hv : Hid (R = false) := HR.out.trans (by simp)
        clear HR
        go_wp2_with fail
        go_ret
        exact ⟨by rw [hv.out]; rfl, hbw⟩
      | true =>
        cases ok with
        | false =>
          have hv : Hid (R = false) := HR.out.trans (by simp)
          clear HR
          go_wp2_with fail
          go_ret
          exact ⟨by rw [hv.out]; rfl, hbw⟩
        | true =>
          by_cases hn : n = N
          · have hv : Hid (R = true) := HR.out.trans (by simp [hn])
            subst hn
            clear HR
            go_wp2_with fail
            go_ret
            exact ⟨by rw [hv.out]; first | rfl | simp, hbw⟩
          · have hv : Hid (R = false) := HR.out.trans (by simp [hn])
            have hn' : (n == N) = false := by simp [hn]
            clear HR
            go_wp2_with fail
            go_ret
            exact ⟨by rw [hv.out]; first | rfl | simp [hn], hbw⟩
    · by_cases k2 : k = 2
      · subst k2
        rw [if_neg (by decide), if_neg (by decide), if_pos rfl] at HR
        clear q1 q2 q4
        generalize isSignB x = b1 at *
        have c0 := (hb 0 _ rfl).1
        have c1 := (hb 1 _ rfl).1
        have c2 := (hb 2 _ rfl).1
        go_enter Tryd.func17, Tryd.ntmps17
        go_wp2_with fail
        refine (q3 _).mono ?_
        rintro e w1 ⟨rfl, hb1⟩
        have hbf := bth5 hbw hb1
        have c2 := (hb.step hb1 2 _ rfl).1
        cases b1 with
        | false =>
          have hv : Hid (R = false) := HR.out.trans (by simp)
          clear HR
          go_wp2_with fail
          go_ret
          exact ⟨by rw [hv.out]; rfl, hbf⟩
        | true =>
          by_cases hn : n = 0
          · have hv : Hid (R = true) := HR.out.trans (by simp [hn])
            subst hn
            clear HR
            go_wp2_with fail
            go_ret
            exact ⟨by rw [hv.out]; rfl, hbf⟩
          · have hv : Hid (R = false) := HR.out.trans (by simp [hn])
            have hn' : (n == 0) = false := by simp [hn]
            clear HR
            go_wp2_with fail
            go_ret
            exact ⟨by rw [hv.out]; first | rfl | simp [hn], hbf⟩
      · rw [if_neg k0, if_neg k1, if_neg k2] at HR
        clear q1 q2 q3 q4
        have c0 := (hb 0 _ rfl).1
        have c1 := (hb 1 _ rfl).1
        have c2 := (hb 2 _ rfl).1
        by_cases k3 : k = 3
        · subst k3
          by_cases he : x = []
          · subst he
            obtain rfl : xs = ⟨#[]⟩ := by apply ByteArray.ext; apply Array.ext'; exact hxl
            by_cases hn : n = 0
            · have hv : Hid (R = true) := HR.out.trans (by simp [hn])
              subst hn
              clear HR
              go_enter Tryd.func17, Tryd.ntmps17
              go_wp2_with fail
              go_ret
              exact ⟨by rw [hv.out]; first | rfl | simp [*], hbw⟩
            · have hv : Hid (R = false) := HR.out.trans (by simp [hn])
              have hn' : (n == 0) = false := by simp [hn]
              clear HR
              go_enter Tryd.func17, Tryd.ntmps17
              go_wp2_with fail
              go_ret
              exact ⟨by rw [hv.out]; first | rfl | simp [hn, *], hbw⟩
          · have hv : Hid (R = false) := HR.out.trans (by simp [he])
            have e1 : ¬ xs.toList = [] := by rw [ByteArray.toList_eq, hxl]; exact he
            have e2 : (xs.toList == []) = false := by rw [beq_eq_false_iff_ne]; exact e1
            have e3 : xs.toList.isEmpty = false := by rw [List.isEmpty_eq_false_iff]; exact e1
            clear HR he
            go_enter Tryd.func17, Tryd.ntmps17
            go_wp2_with fail
            go_ret
            exact ⟨by rw [hv.out]; first | rfl | simp [*], hbw⟩
        · have hv : Hid (R = false) := HR.out.trans (by simp [k3])
          have k3' : (k == 3) = false := by simp [k3]
          clear HR
          go_enter Tryd.func17, Tryd.ntmps17
          go_wp2_with fail
          go_ret
          exact ⟨by rw [hv.out]; first | rfl | simp [k3], hbw⟩

set_option maxHeartbeats 4000000 in
theorem refSame (k : Int) (x : List UInt8) (n l c k' : Int) (x' : List UInt8) (n' l' c' : Int) (w : World) : Calls Tryd.prog 19 #[.agg #[.int .i64 k, .string ⟨x.toArray⟩, .int .i64 n, .int .i64 l, .int .i64 c], .agg #[.int .i64 k', .string ⟨x'.toArray⟩, .int .i64 n', .int .i64 l', .int .i64 c']] w fun e w' => e = .returned (.bool (sameV ⟨k, x, n, l, c⟩ ⟨k', x', n', l', c'⟩)) ∧ Below w.heap.size w w' := by
  obtain ⟨R, hR⟩ : ∃ R, R = sameV ⟨k, x, n, l, c⟩ ⟨k', x', n', l', c'⟩ := ⟨_, rfl⟩
  rw [← hR]
  unfold sameV at hR
  simp only at hR
  have HR := Lib.hid hR
  clear hR
  obtain ⟨xs, hxs⟩ : ∃ xs : ByteArray, xs = ⟨x.toArray⟩ := ⟨_, rfl⟩
  obtain ⟨ys, hys⟩ : ∃ ys : ByteArray, ys = ⟨x'.toArray⟩ := ⟨_, rfl⟩
  rw [← hxs, ← hys]
  have hxl : xs.data.toList = x := by rw [hxs]
  have hyl : ys.data.toList = x' := by rw [hys]
  have h0 := bnew5 w (.cells #[.int .i64 k, .string xs, .int .i64 n, .int .i64 l, .int .i64 c] 40)
  have h1 := bnew5 (w.alloc (.cells #[.int .i64 k, .string xs, .int .i64 n, .int .i64 l, .int .i64 c] 40)) (.cells #[.int .i64 k', .string ys, .int .i64 n', .int .i64 l', .int .i64 c'] 40)
  have ha : Box ((w.alloc (.cells #[.int .i64 k, .string xs, .int .i64 n, .int .i64 l, .int .i64 c] 40)).alloc (.cells #[.int .i64 k', .string ys, .int .i64 n', .int .i64 l', .int .i64 c'] 40)) w.heap.size [.int .i64 k, .string xs, .int .i64 n, .int .i64 l, .int .i64 c] := (Box.new w _ _).step h1
  have hb : Box ((w.alloc (.cells #[.int .i64 k, .string xs, .int .i64 n, .int .i64 l, .int .i64 c] 40)).alloc (.cells #[.int .i64 k', .string ys, .int .i64 n', .int .i64 l', .int .i64 c'] 40)) (w.heap.size + 1) [.int .i64 k', .string ys, .int .i64 n', .int .i64 l', .int .i64 c'] := by
    have := Box.new (w.alloc (.cells #[.int .i64 k, .string xs, .int .i64 n, .int .i64 l, .int .i64 c] 40)) [.int .i64 k', .string ys, .int .i64 n', .int .i64 l', .int .i64 c'] 40
    rw [show (w.alloc (.cells #[.int .i64 k, .string xs, .int .i64 n, .int .i64 l, .int .i64 c] 40)).heap.size = w.heap.size + 1 by simp] at this
    exact this
  have hbw := bth5 h0 h1
  have a0 := (ha 0 _ rfl).1
  have a1 := (ha 1 _ rfl).1
  have a2 := (ha 2 _ rfl).1
  have b0 := (hb 0 _ rfl).1
  have b1 := (hb 1 _ rfl).1
  have b2 := (hb 2 _ rfl).1
  clear hxs hys h0 h1 ha hb
  by_cases hk : k = k'
  · by_cases hx : x = x'
    · have e1 : (xs.toList == ys.toList) = true := by rw [beq_iff_eq, ByteArray.toList_eq, ByteArray.toList_eq, hxl, hyl]; exact hx
      by_cases hn : n = n'
      · have hv : Hid (R = true) := HR.out.trans (by simp [hk, hx, hn])
        subst hk hn
        clear HR
        go_enter Tryd.func19, Tryd.ntmps19
        go_wp2_with fail
        go_ret
        exact ⟨by rw [hv.out]; first | rfl | simp [e1], hbw⟩
      · have hv : Hid (R = false) := HR.out.trans (by simp [hn])
        have hn2 : (n == n') = false := by simp [hn]
        subst hk
        clear HR
        go_enter Tryd.func19, Tryd.ntmps19
        go_wp2_with fail
        go_ret
        exact ⟨by rw [hv.out]; first | rfl | simp [hn2], hbw⟩
    · have e1 : (xs.toList == ys.toList) = false := by rw [beq_eq_false_iff_ne, ByteArray.toList_eq, ByteArray.toList_eq, hxl, hyl]; exact hx
      have hv : Hid (R = false) := HR.out.trans (by simp [hx])
      subst hk
      clear HR
      go_enter Tryd.func19, Tryd.ntmps19
      go_wp2_with fail
      go_ret
      exact ⟨by rw [hv.out]; first | rfl | simp [e1], hbw⟩
  · have hv : Hid (R = false) := HR.out.trans (by simp [hk])
    have hk2 : (k == k') = false := by simp [hk]
    clear HR
    go_enter Tryd.func19, Tryd.ntmps19
    go_wp2_with fail
    go_ret
    exact ⟨by rw [hv.out]; first | rfl | simp [hk2], hbw⟩

/-- Tokens, joined. -/
def joinStep (a : List UInt8 × Bool) (t : TokV) : List UInt8 × Bool := if t.k = 3 then a else ((if a.2 then a.1 ++ [32] else a.1) ++ t.x, true)
def joinV (r : List TokV) : List UInt8 := (r.foldl joinStep ([], false)).1
def joinA (r : List TokV) : List UInt8 × Bool := r.foldl joinStep ([], false)
theorem joinA_next (r : List TokV) (i : Nat) (t : TokV) (h : r[i]? = some t) : joinA (r.take (i + 1)) = joinStep (joinA (r.take i)) t := by
  rw [List.take_add_one, h]
  unfold joinA
  simp
theorem joinA_len (r : List TokV) (M : Nat) (h : ∀ t ∈ r, t.x.length ≤ M) : (joinA r).1.length ≤ r.length * (M + 1) := by
  unfold joinA
  have h0 : ∀ (a : List UInt8 × Bool), (r.foldl joinStep a).1.length ≤ a.1.length + r.length * (M + 1) := by
    induction r with
    | nil => intro a; simp
    | cons t r ih =>
      intro a
      rw [List.foldl_cons]
      refine Nat.le_trans (ih (fun u hu => h u (List.mem_cons_of_mem _ hu)) _) ?_
      have ht := h t (by simp)
      have : (joinStep a t).1.length ≤ a.1.length + (M + 1) := by
        unfold joinStep
        split
        · omega
        · split <;> simp <;> omega
      rw [List.length_cons, Nat.add_mul, Nat.one_mul]
      omega
  simpa using h0 ([], false)
theorem txt5 (a b : List UInt8) : (⟨a.toArray⟩ : ByteArray) ++ ⟨b.toArray⟩ = ⟨(a ++ b).toArray⟩ := by
  apply ByteArray.ext
  simp

set_option maxHeartbeats 4000000 in
theorem refJoin (A : Option Addr) (n c0 : Nat) (r : List TokV) (w : World) (hr : RowT w A n r) (hn : n ≤ 10000) (hM : ∀ t ∈ r, t.x.length ≤ 10000) : Calls Tryd.prog 21 #[.slice A n c0] w fun e w' => e = .returned (.string ⟨(joinV r).toArray⟩) ∧ w' = w := by
  have HM := Lib.hid hM
  clear hM
  go_enter Tryd.func21, Tryd.ntmps21
  go_wp2_with fail
  go_loopw [3, 4, 5] (fun s f v W => ∃ i : Nat, i ≤ n ∧ v = .int .i64 i ∧ s = .string ⟨(joinA (r.take i)).1.toArray⟩ ∧ f = .bool (joinA (r.take i)).2 ∧ W = w) (fun _ _ v _ => n - (intOf v).toNat)
  case atStart => exact ⟨0, by omega, rfl, rfl, rfl, rfl⟩
  case round =>
    obtain ⟨i, hi, rfl, rfl, rfl, rfl⟩ := hrel
    have hlen : (joinA (r.take i)).1.length ≤ 100010000 := by
      have h1 := joinA_len (r.take i) 10000 (fun t ht => HM.out t (List.mem_of_mem_take ht))
      rw [List.length_take] at h1
      have : min i r.length * (10000 + 1) ≤ 10000 * 10001 := Nat.mul_le_mul (by omega) (by omega)
      omega
    by_cases hlt : i < n
    · have hlt' : (i : Int) < n := by omega
      obtain ⟨ad, ⟨tk, tx, tn, tl, tc⟩, rfl, hri, h0, h1, h2, h3, h4⟩ := hr.at_ hlt
      have hnext := joinA_next r i _ hri
      have hxl : tx.length ≤ 10000 := HM.out _ (List.mem_iff_getElem?.2 ⟨_, hri⟩)
      have h1' : wr.cell? ((ad.add (i * 5)).add 1) = some (.string ⟨tx.toArray⟩) := by rw [add_of_add]; exact h1
      have h1'' : wr.cell? ⟨(ad.add (i * 5)).block, (ad.add (i * 5)).off + 1, none⟩ = some (.string ⟨tx.toArray⟩) := h1'
      clear hri h2 h3 h4
      obtain ⟨a, b, hab⟩ : ∃ a b, joinA (r.take i) = (a, b) := ⟨_, _, rfl⟩
      rw [hab] at hnext hlen ⊢
      simp only at hlen ⊢
      clear hab
      by_cases hk : tk = 3
      · subst hk
        have HN : Hid (joinA (r.take (i + 1)) = (a, b)) := by show _ = _; rw [hnext]; unfold joinStep; rw [if_pos rfl]
        clear hnext
        go_wp2_with fail
        refine ⟨⟨i + 1, by omega, by go_num, by rw [HN.out], by rw [HN.out], by first | rfl | trivial⟩, by simp [intOf]; omega⟩
      · have hk' : (tk == 3) = false := by simp [hk]
        cases b with
        | false =>
          have HN : Hid (joinA (r.take (i + 1)) = (a ++ tx, true)) := by show _ = _; rw [hnext]; unfold joinStep; rw [if_neg hk]; rfl
          have HT := Lib.hid (txt5 a tx)
          have f1 : (9223372036854775807 < a.length + tx.length) = False := by simp; omega
          clear hnext
          go_wp2_with fail
          refine ⟨⟨i + 1, by omega, by go_num, by rw [HN.out, HT.out], by rw [HN.out], by first | rfl | trivial⟩, by simp [intOf]; omega⟩
        | true =>
          have HN : Hid (joinA (r.take (i + 1)) = ((a ++ [32]) ++ tx, true)) := by show _ = _; rw [hnext]; unfold joinStep; rw [if_neg hk]; rfl
          have HT : Hid ((⟨a.toArray⟩ : ByteArray) ++ ⟨#[32]⟩ ++ ⟨tx.toArray⟩ = ⟨((a ++ [32]) ++ tx).toArray⟩) := by
            show _ = _
            rw [show (⟨#[32]⟩ : ByteArray) = ⟨[32].toArray⟩ from rfl, txt5, txt5]
          have f1 : (9223372036854775807 < a.length + 1) = False := by simp; omega
          have f2 : (9223372036854775806 < a.length) = False := by simp; omega
          have f3 : (9223372036854775807 < a.length + 1 + tx.length) = False := by simp; omega
          clear hnext
          go_wp2_with fail
          refine ⟨⟨i + 1, by omega, by go_num, by rw [HN.out, HT.out], by rw [HN.out], by first | rfl | trivial⟩, by simp [intOf]; omega⟩
    · have hi2 : i = n := by omega
      have hlt' : ¬ (i : Int) < n := by omega
      have htk : r.take i = r := List.take_of_length_le (by have := hr.1; omega)
      rw [htk]
      have HJ : Hid ((joinA r).1 = joinV r) := rfl
      rw [HJ.out]
      clear htk hi2 hlt
      go_wp2_with fail
      go_ret
      exact ⟨rfl, rfl⟩
end Go.Proofs.YthlpldmodflmjaaDoor
