/- The mathematics of TokenBack's first half (no program in it): where tokens stand, what is between them, that they are right. -/
import Derived.Test.YthlpldmodflmjaaDoorLawTd
namespace Go.Proofs.YthlpldmodflmjaaDoor
open Go.RowKit

theorem longF_spec (f : Nat) (l : List UInt8) (i : Nat) (b : Nat × Nat) (h : b.1 ≠ 0 → kindOf (l.take b.1) = some b.2) : (longF f l i b).1 ≠ 0 → kindOf (l.take (longF f l i b).1) = some (longF f l i b).2 := by
  induction f generalizing i b with
  | zero => exact h
  | succ f ih =>
    unfold longF
    split
    · exact h
    · split
      · rename_i k hk
        exact ih _ _ (fun _ => hk)
      · split
        · exact h
        · exact ih _ _ h
theorem longL_spec (l : List UInt8) (h : (longL l).1 ≠ 0) : kindOf (l.take (longL l).1) = some (longL l).2 := longF_spec _ _ _ _ (fun h => absurd rfl h) h
theorem kindOf_0 {x : List UInt8} (h : kindOf x = some 0) : isWordB x = true := by
  unfold kindOf at h
  repeat' split at h
  all_goals first | assumption | (injection h with h; omega) | cases h
theorem kindOf_1 {x : List UInt8} (h : kindOf x = some 1) : isIntB x = true := by
  unfold kindOf at h
  repeat' split at h
  all_goals first | assumption | (injection h with h; omega) | cases h
theorem kindOf_2 {x : List UInt8} (h : kindOf x = some 2) : isSignB x = true := by
  unfold kindOf at h
  repeat' split at h
  all_goals first | (rename_i h2; exact h2.2) | (injection h with h; omega) | cases h

/-- A token that stands at q, from p on but a gap ahead of it. -/
structure AtT (L : List UInt8) (p q : Nat) (t : TokV) : Prop where
  le : p ≤ q
  fits : q + t.x.length ≤ L.length
  row : t.l = ((spot L q).1 : Nat)
  col : t.c = ((spot L q).2 : Nat)
  text : (L.drop q).take t.x.length = t.x
  gap : gapL ((L.drop p).take (q - p)) false = true
  right : rightV t = true
  last : t.k = 3 → q + t.x.length = L.length

theorem next_at (L : List UInt8) (p : Nat) (hp : p ≤ L.length) (he : (nextP L p).2.2.2.2 = 0) : ∃ q, AtT L p q (nextP L p).1 ∧ (nextP L p).2.1 = q + (nextP L p).1.x.length := by
  have hq := skip_le L p hp
  have hg := gap_skip (L.drop p) false
  unfold nextP at he ⊢
  obtain ⟨q, hqq⟩ : ∃ q, q = p + skipL (L.drop p) false := ⟨_, rfl⟩
  rw [show skipL (L.drop p) false = q - p by omega] at hg
  rw [← hqq] at hq he ⊢
  have hpq : p ≤ q := by omega
  clear hqq
  refine ⟨q, ?_⟩
  unfold nextQ at he ⊢
  by_cases hL : q = L.length
  · rw [if_pos hL]
    exact ⟨⟨hpq, by simp; omega, rfl, rfl, by simp, hg, by simp [rightV], fun _ => by simp; omega⟩, by simp⟩
  · rw [if_neg hL] at he ⊢
    have hn := longL_le (L.drop q)
    have hs := longL_spec (L.drop q)
    have hk2 := longL_kind (L.drop q)
    obtain ⟨n, k, hnk⟩ : ∃ n k, longL (L.drop q) = (n, k) := ⟨_, _, rfl⟩
    rw [hnk] at he hn hs hk2 ⊢
    simp only at he hn hs hk2 ⊢
    rw [List.length_drop] at hn
    have hxl : ((L.drop q).take n).length = n := by rw [List.length_take, List.length_drop]; omega
    generalize hx : (L.drop q).take n = x at *
    by_cases hE : errV n k x = 0
    · rw [if_pos hE] at he ⊢
      simp only
      have hn0 : n ≠ 0 := by
        intro h
        rw [h] at hE
        simp [errV] at hE
      have hs := hs hn0
      refine ⟨⟨hpq, by simp only; omega, rfl, rfl, by simp only; rw [hxl]; exact hx, hg, ?_, ?_⟩, by omega⟩
      · unfold errV at hE
        rw [if_neg hn0] at hE
        have hk : k = 0 ∨ k = 1 ∨ k = 2 := by omega
        unfold rightV
        rcases hk with rfl | rfl | rfl
        · have h32 : ¬ 32 < n := fun h => by rw [if_pos ⟨rfl, h⟩] at hE; cases hE
          have := kindOf_0 hs
          simp [this, hxl]; omega
        · have hv : (numV x).2 = true := by
            cases h : (numV x).2 with
            | true => rfl
            | false => rw [if_neg (by omega), if_pos ⟨rfl, h⟩] at hE; cases hE
          have := kindOf_1 hs
          simp [this, hv]
        · have := kindOf_2 hs
          simp [this]
      · intro h
        simp only at h
        omega
    · rw [if_neg hE] at he
      simp only at he
      exact absurd he hE

/-- Tokens one behind the other, an end at the end. -/
def Chain (L : List UInt8) : Nat → List TokV → Prop
  | _, [] => False
  | p, t :: r => ∃ q, AtT L p q t ∧ (t.k = 3 ↔ r = []) ∧ (r ≠ [] → Chain L (q + t.x.length) r)
theorem allF_chain (f : Nat) (L : List UInt8) (p : Nat) (acc : List TokV) (hp : p ≤ L.length) (hf : L.length + 2 ≤ f + p) (he : (allF f L p acc).2.2.2 = 0) : ∃ r, (allF f L p acc).1 = acc ++ r ∧ Chain L p r := by
  induction f generalizing p acc with
  | zero => omega
  | succ f ih =>
    unfold allF at he ⊢
    simp only at he ⊢
    by_cases h1 : (nextP L p).2.2.2.2 ≠ 0
    · rw [if_pos h1] at he
      exact absurd he h1
    · rw [if_neg h1] at he ⊢
      have h0 : (nextP L p).2.2.2.2 = 0 := by omega
      obtain ⟨q, hat, hnx⟩ := next_at L p hp h0
      by_cases h3 : (nextP L p).1.k = 3
      · rw [if_pos h3]
        exact ⟨[(nextP L p).1], rfl, q, hat, ⟨fun _ => rfl, fun _ => h3⟩, fun h => absurd rfl h⟩
      · rw [if_neg h3] at he ⊢
        have ho := nextP_on L p hp
        have hlt := ho.2 h0 h3
        obtain ⟨r, hr, hc⟩ := ih _ _ ho.1 (by omega) he
        refine ⟨(nextP L p).1 :: r, by rw [hr]; simp, q, hat, ⟨fun h => absurd h h3, fun h => ?_⟩, fun _ => by rw [← hnx]; exact hc⟩
        rw [h] at hc
        exact absurd hc (by simp [Chain])
theorem allV_chain (L : List UInt8) (he : (allV L).2.2.2 = 0) : Chain L 0 (allV L).1 := by
  obtain ⟨r, hr, hc⟩ := allF_chain (L.length + 2) L 0 [] (Nat.zero_le _) (by omega) he
  rw [List.nil_append] at hr
  unfold allV
  rw [hr]
  exact hc
end Go.Proofs.YthlpldmodflmjaaDoor
