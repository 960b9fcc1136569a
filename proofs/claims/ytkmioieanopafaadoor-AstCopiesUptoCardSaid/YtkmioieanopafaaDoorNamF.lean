/- Reads, Writes, Calls of the landed ast; what is among the names kept. -/
import Derived.Test.YtkmioieanopafaaDoorNamE
namespace Go.Proofs.YtkmioieanopafaaDoor
open Go.RowKit

/-- The names of a row of statements that are used so. -/
def nmN (wt : Int) (es : List SV) : List (List UInt8) := ddN wt (sus es)
theorem ddN_mem (wt : Int) (pre : List (Int × List UInt8)) (t : List UInt8) : t ∈ ddN wt pre ↔ ∃ x ∈ pre, x.1 = wt ∧ tk4 x.2 = t := by
  have hnil : ddN wt [] = [] := rfl
  suffices h : ∀ (q p : List (Int × List UInt8)), (t ∈ ddN wt p ↔ ∃ x ∈ p, x.1 = wt ∧ tk4 x.2 = t) → (t ∈ ddN wt (p ++ q) ↔ ∃ x ∈ p ++ q, x.1 = wt ∧ tk4 x.2 = t) by
    simpa using h pre [] (by simp [hnil])
  intro q
  induction q with
  | nil => intro p hp; simpa using hp
  | cons x r ih =>
    intro p hp
    have h1 := ih (p ++ [x]) (by
      rw [ddN_snoc]
      by_cases hx : x.1 = wt ∧ (ddN wt p).contains (tk4 x.2) = false
      · rw [if_pos hx, List.mem_append, hp, List.mem_singleton]
        constructor
        · rintro (⟨y, h1, h2⟩ | rfl)
          · exact ⟨y, by simp [h1], h2⟩
          · exact ⟨x, by simp, hx.1, rfl⟩
        · rintro ⟨y, h1, h2⟩
          rcases List.mem_append.1 h1 with h1 | h1
          · exact .inl ⟨y, h1, h2⟩
          · rw [List.mem_singleton.1 h1] at h2; exact .inr h2.2.symm
      · rw [if_neg hx, hp]
        constructor
        · rintro ⟨y, h1, h2⟩
          exact ⟨y, by simp [h1], h2⟩
        · rintro ⟨y, h1, h2⟩
          rcases List.mem_append.1 h1 with h1 | h1
          · exact ⟨y, h1, h2⟩
          · rw [List.mem_singleton.1 h1] at h2
            have hc : (ddN wt p).contains (tk4 x.2) = true := by
              cases hb : (ddN wt p).contains (tk4 x.2) with
              | true => rfl
              | false => exact absurd ⟨h2.1, hb⟩ hx
            rw [List.contains_iff_mem] at hc
            rw [h2.2] at hc
            exact hp.1 hc)
    simpa [List.append_assoc] using h1
theorem ddN_nodup (wt : Int) (pre : List (Int × List UInt8)) : (ddN wt pre).Nodup := by
  suffices h : ∀ (q p : List (Int × List UInt8)), (ddN wt p).Nodup → (ddN wt (p ++ q)).Nodup by
    simpa using h pre [] (by simp [ddN])
  intro q
  induction q with
  | nil => intro p hp; simpa using hp
  | cons x r ih =>
    intro p hp
    have h1 := ih (p ++ [x]) (by
      rw [ddN_snoc]
      by_cases hx : x.1 = wt ∧ (ddN wt p).contains (tk4 x.2) = false
      · rw [if_pos hx, List.nodup_append]
        refine ⟨hp, by simp, fun a ha b hb => ?_⟩
        rw [List.mem_singleton.1 hb]
        rintro rfl
        have := List.contains_iff_mem.2 ha
        rw [hx.2] at this
        cases this
      · rw [if_neg hx]; exact hp)
    simpa [List.append_assoc] using h1
theorem nmN_len (wt : Int) (es : List SV) : (nmN wt es).length ≤ sbk es := Nat.le_trans (ddN_len _ _) (sus_len es)
theorem nmN_mem (wt : Int) (es : List SV) (t : List UInt8) : t ∈ nmN wt es ↔ ∃ s ∈ es, t ∈ nmN wt [s] := by
  have hs : ∀ s, sus [s] = sus1 s := fun s => by simp [sus]
  unfold nmN
  rw [ddN_mem]
  induction es with
  | nil => simp [sus]
  | cons a r ih =>
    constructor
    · rintro ⟨x, h1, h2⟩
      rcases List.mem_append.1 (show x ∈ sus1 a ++ sus r from h1) with h1 | h1
      · exact ⟨a, by simp, (ddN_mem _ _ _).2 ⟨x, by rw [hs]; exact h1, h2⟩⟩
      · obtain ⟨s, h3, h4⟩ := ih.1 ⟨x, h1, h2⟩
        exact ⟨s, by simp [h3], h4⟩
    · rintro ⟨s, h1, h2⟩
      rcases List.mem_cons.1 h1 with rfl | h1
      · obtain ⟨x, h3, h4⟩ := (ddN_mem _ _ _).1 h2
        rw [hs] at h3
        exact ⟨x, List.mem_append_left _ h3, h4⟩
      · obtain ⟨x, h3, h4⟩ := ih.2 ⟨s, h1, h2⟩
        exact ⟨x, List.mem_append_right _ h3, h4⟩

/-- What a call for names answers. -/
def NamP (w : World) (l : List (List UInt8)) (e : Ending) (w' : World) : Prop := ∃ v, e = .returned v ∧ w'.ownsRow w.heap.size 9 1 v l.length (strs l) ∧ Below w.heap.size w w'
theorem astNamed (wt : Int) (es : List SV) (A : Option Addr) (c : Nat) (w : World) (hM : sbk es ≤ 4000000) (hx : SR w A es) : Calls Tryd.prog 79 #[.slice A es.length c, .int .i64 wt] w (NamP w (nmN wt es)) :=
  callsIn_wide.1 (astNamedIn 3 (by omega) wt es A c w hM hx)

set_option maxHeartbeats 1000000 in
theorem astReads (es : List SV) (A : Option Addr) (c : Nat) (w : World) (hM : sbk es ≤ 4000000) (hx : SR w A es) : Calls Tryd.prog 35 #[.slice A es.length c] w (NamP w (nmN 0 es)) := by
  have hq := astNamed 0 es A c w hM hx
  obtain ⟨m, hm⟩ : ∃ m, m = es.length := ⟨_, rfl⟩
  rw [← hm] at hq ⊢
  clear hm hx hM
  obtain ⟨l, hl⟩ : ∃ l, l = nmN 0 es := ⟨_, rfl⟩
  rw [← hl] at hq ⊢
  clear hl
  go_enter Tryd.func35, Tryd.ntmps35
  go_wp2_with fail
  refine hq.mono ?_
  rintro e w1 ⟨v, rfl, h1, h2⟩
  go_wp2_with fail
  go_ret
  exact ⟨v, rfl, h1, h2⟩

set_option maxHeartbeats 1000000 in
theorem astWrites (es : List SV) (A : Option Addr) (c : Nat) (w : World) (hM : sbk es ≤ 4000000) (hx : SR w A es) : Calls Tryd.prog 36 #[.slice A es.length c] w (NamP w (nmN 1 es)) := by
  have hq := astNamed 1 es A c w hM hx
  obtain ⟨m, hm⟩ : ∃ m, m = es.length := ⟨_, rfl⟩
  rw [← hm] at hq ⊢
  clear hm hx hM
  obtain ⟨l, hl⟩ : ∃ l, l = nmN 1 es := ⟨_, rfl⟩
  rw [← hl] at hq ⊢
  clear hl
  go_enter Tryd.func36, Tryd.ntmps36
  go_wp2_with fail
  refine hq.mono ?_
  rintro e w1 ⟨v, rfl, h1, h2⟩
  go_wp2_with fail
  go_ret
  exact ⟨v, rfl, h1, h2⟩

set_option maxHeartbeats 1000000 in
theorem astCalls (es : List SV) (A : Option Addr) (c : Nat) (w : World) (hM : sbk es ≤ 4000000) (hx : SR w A es) : Calls Tryd.prog 37 #[.slice A es.length c] w (NamP w (nmN 2 es)) := by
  have hq := astNamed 2 es A c w hM hx
  obtain ⟨m, hm⟩ : ∃ m, m = es.length := ⟨_, rfl⟩
  rw [← hm] at hq ⊢
  clear hm hx hM
  obtain ⟨l, hl⟩ : ∃ l, l = nmN 2 es := ⟨_, rfl⟩
  rw [← hl] at hq ⊢
  clear hl
  go_enter Tryd.func37, Tryd.ntmps37
  go_wp2_with fail
  refine hq.mono ?_
  rintro e w1 ⟨v, rfl, h1, h2⟩
  go_wp2_with fail
  go_ret
  exact ⟨v, rfl, h1, h2⟩
/-- A row that the call owns reads as texts. -/
theorem NamP.row {w w' : World} {l : List (List UInt8)} {v : Value} (h : w'.ownsRow w.heap.size 9 1 v l.length (strs l)) : ∃ A c, v = .slice A l.length c ∧ RowS w' A l.length l := by
  rcases h.2 with ⟨rfl, h0⟩ | ⟨g, cap, cur, rfl, _, hgb, _⟩
  · rw [h0]
    have : l = [] := List.eq_nil_of_length_eq_zero h0
    subst this
    exact ⟨none, 0, rfl, by simp [strs], fun h => absurd h (by simp)⟩
  · have hh : World.ownsRow w' w.heap.size 9 1 (.slice (some ⟨g, 0, none⟩) l.length cap) l.length (strs l) := h
    exact ⟨_, cap, rfl, Reads.of_own hh⟩
end Go.Proofs.YtkmioieanopafaaDoor
