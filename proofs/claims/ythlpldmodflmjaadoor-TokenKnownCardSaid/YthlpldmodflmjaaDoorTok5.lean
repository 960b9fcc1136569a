/- The contract of layer 5's Join. -/
import Derived.Test.YthlpldmodflmjaaDoorTok4
import Derived.Lib.OthersKept
namespace Go.Proofs.YthlpldmodflmjaaDoor
open Go.RowKit

/-- A builder of the call's own, with what it holds. -/
def BJ (w : World) (l : List UInt8) (W : World) : Prop := Lib.IsBuilderF 81 5 w.heap.size w.heap.size (Lib.byteCells l) W ∧ Below w.heap.size w W
theorem BJ.start (w : World) : BJ w [] (w.alloc (.cells #[.pointer none, .slice none 0 0] 81)) :=
  ⟨Or.inl ⟨Nat.le_refl _, .slice none 0 0, heap_alloc_new w _, ⟨rfl, Or.inl ⟨rfl, rfl⟩⟩, by simp [Value.ownBlock]⟩, bnew5 w _⟩
theorem BJ.alloc {w W : World} {l : List UInt8} (h : BJ w l W) (o : Obj) : BJ w l (W.alloc o) := ⟨h.1.alloc o, h.2.alloc h.2.size o⟩
/-- What writes to the builder leaves other boxes as they were. -/
theorem kept_tok {W W' : World} {b : Nat} {g : Nat} {a0 a1 a2 a3 a4 : Value} (hk : Lib.OthersKept 5 (some b) W W') (hg : W.heap[g]? = some (.cells #[a0, a1, a2, a3, a4] 34 (0, 0))) (hne : g ≠ b) : W'.heap[g]? = some (.cells #[a0, a1, a2, a3, a4] 34 (0, 0)) :=
  hk g _ hg (fun e => hne (by injection e)) (fun c fz e => by injection e with _ e2; exact absurd e2 (by decide))

set_option maxHeartbeats 4000000 in
theorem tokJoin_ : TokJoinC := by
  intro A n c0 r w hr hn hM
  have HM := Lib.hid hM
  have hst0 := Lib.hid (BJ.start w)
  clear hM
  go_enter Tryd.func20, Tryd.ntmps20
  go_wp2_with fail
  go_loopw [4, 9] (fun f v W => ∃ i : Nat, i ≤ n ∧ v = .int .i64 i ∧ f = .bool (!(joinA (r.take i)).2) ∧ Hid (BJ w (joinA (r.take i)).1 W)) (fun _ v _ => n - (intOf v).toNat)
  case atStart => exact ⟨0, by omega, rfl, rfl, hst0⟩
  case round =>
    obtain ⟨i, hi, rfl, rfl, hst⟩ := hrel
    clear hst0
    have hlen : (joinA (r.take i)).1.length ≤ 10100 := by
      have h1 := joinA_len (r.take i) 100 (fun t ht => HM.out t (List.mem_of_mem_take ht))
      rw [List.length_take] at h1
      have : min i r.length * (100 + 1) ≤ 100 * 101 := Nat.mul_le_mul (by omega) (by omega)
      omega
    by_cases hlt : i < n
    · have hlt' : (i : Int) < n := by omega
      obtain ⟨ad, ⟨tk, tx, tn, tl, tc⟩, rfl, hri, h0, h1, h2, h3, h4⟩ := (hr.below hst.out.2).el hlt
      simp only at h0 h1 h2 h3 h4
      have hnext := joinA_next r i _ hri
      have hxl : tx.length ≤ 100 := HM.out _ (List.mem_iff_getElem?.2 ⟨_, hri⟩)
      obtain ⟨a, b, hab⟩ : ∃ a b, joinA (r.take i) = (a, b) := ⟨_, _, rfl⟩
      rw [hab] at hnext hlen hst ⊢
      simp only at hlen hst ⊢
      clear hab hri
      have hgb : w.heap.size < wr.heap.size := by
        rcases hst.out.1 with h | h
        · exact h.lt
        · exact h.lt
      have hsa := Lib.hid (hst.out.alloc (.cells #[.int .i64 tk, .string ⟨tx.toArray⟩, .int .i64 tn, .int .i64 tl, .int .i64 tc] 34))
      have hgt : Hid ((wr.alloc (.cells #[.int .i64 tk, .string ⟨tx.toArray⟩, .int .i64 tn, .int .i64 tl, .int .i64 tc] 34)).heap[wr.heap.size]? = some (.cells #[.int .i64 tk, .string ⟨tx.toArray⟩, .int .i64 tn, .int .i64 tl, .int .i64 tc] 34 (0, 0))) := heap_alloc_new wr _
      by_cases hk : tk = 3
      · subst hk
        have HN : Hid (joinA (r.take (i + 1)) = (a, b)) := by show _ = _; rw [hnext]; unfold joinStep; rw [if_pos rfl]
        clear hnext hst hgt hgb
        go_wp2_with fail
        exact ⟨⟨i + 1, by omega, by go_num, by rw [HN.out], by rw [HN.out]; exact hsa⟩, by simp [intOf]; omega⟩
      · have hk' : (tk == 3) = false := by simp [hk]
        have hxs : (⟨tx.toArray⟩ : ByteArray).size = tx.length := by simp [ByteArray.size]
        cases b with
        | false =>
          have HN : Hid (joinA (r.take (i + 1)) = (a ++ tx, true)) := by show _ = _; rw [hnext]; unfold joinStep; rw [if_neg hk]; rfl
          have q1 := Tryd.Builder_WriteString_k w.heap.size w.heap.size (Lib.byteCells a) ⟨tx.toArray⟩ _ hsa.out.1 (by rw [Lib.byteCells_length, hxs]; omega) (by simp; omega)
          clear hnext hst hgt hgb
          go_wp2_with fail
          refine q1.mono ?_
          rintro e w2 ⟨rfl, hw2, hb2, -⟩
          have hs2 : Hid (BJ w (a ++ tx) w2) := ⟨Or.inr (by rw [Lib.byteCells_append]; exact hw2), hsa.out.2.trans hb2⟩
          clear q1 hw2 hb2 h0 h1 h2 h3 h4
          go_wp2_with fail
          exact ⟨⟨i + 1, by omega, by go_num, by rw [HN.out]; first | rfl | simp, by rw [HN.out]; exact hs2⟩, by simp [intOf]; omega⟩
        | true =>
          have HN : Hid (joinA (r.take (i + 1)) = ((a ++ [32]) ++ tx, true)) := by show _ = _; rw [hnext]; unfold joinStep; rw [if_neg hk]; rfl
          have q0 := Tryd.Builder_WriteByte_k w.heap.size w.heap.size (Lib.byteCells a) 32 _ hsa.out.1 (by rw [Lib.byteCells_length]; omega) (by simp; omega)
          clear hnext hst
          go_wp2_with fail
          refine q0.mono ?_
          rintro e w1 ⟨rfl, hw1, hb1, ho1⟩
          have hs1 : Hid (BJ w (a ++ [32]) w1) := ⟨Or.inr (by rw [Lib.byteCells_append]; exact hw1), hsa.out.2.trans hb1⟩
          have hg1 := kept_tok ho1 hgt.out (by omega)
          have t1 : w1.cell? ⟨wr.heap.size, 1, none⟩ = some (.string ⟨tx.toArray⟩) := by
            rw [cell_of_row _ _ 1 #[.int .i64 tk, .string ⟨tx.toArray⟩, .int .i64 tn, .int .i64 tl, .int .i64 tc] 34 (0, 0) hg1]
            rfl
          have q1 := Tryd.Builder_WriteString_k w.heap.size w.heap.size (Lib.byteCells (a ++ [32])) ⟨tx.toArray⟩ w1 hs1.out.1 (by rw [Lib.byteCells_length, hxs]; simp; omega) (by have := hs1.out.2.size; omega)
          clear q0 hw1 hb1 ho1 hg1 h0 h1 h2 h3 h4 hsa hgt
          go_wp2_with fail
          refine q1.mono ?_
          rintro e w2 ⟨rfl, hw2, hb2, -⟩
          have hs2 : Hid (BJ w (a ++ [32] ++ tx) w2) := ⟨Or.inr (by rw [Lib.byteCells_append]; exact hw2), hs1.out.2.trans hb2⟩
          clear q1 hw2 hb2 t1 hs1
          go_wp2_with fail
          exact ⟨⟨i + 1, by omega, by go_num, by rw [HN.out]; first | rfl | simp, by rw [HN.out]; exact hs2⟩, by simp [intOf]; omega⟩
    · have hi2 : i = n := by omega
      have hlt' : ¬ (i : Int) < n := by omega
      have htk : r.take i = r := List.take_of_length_le (by have := hr.1; omega)
      rw [htk] at hst
      have HJ : Hid ((joinA r).1 = joinV r) := rfl
      rw [HJ.out] at hst
      have q2 := Tryd.Builder_String_any_k w.heap.size w.heap.size (joinV r) wr hst.out.1 hst.out.2.size
      clear htk hi2 hlt
      go_wp2_with fail
      refine q2.mono ?_
      rintro e w2 ⟨rfl, _, hb2, -⟩
      have hbf := Lib.hid (hst.out.2.trans hb2)
      clear q2 hb2
      go_wp2_with fail
      go_ret
      exact ⟨rfl, hbf.out⟩
end Go.Proofs.YthlpldmodflmjaaDoor
