/- Trees as texts: right trees in clean form; layouts: gaps and tokens; numbers (no program in it). An expression's tokens are read back as that expression: a reading by levels, and that it goes back (no program in it). Statements as layouts; those with the same tokens are the same (no program in it). Declarations and programs as layouts; those with the same tokens are the same (no program in it). -/
import Derived.Test.YtejifkeeihkcjaaDoorGAstB
import Derived.Lib.ItoaMem
namespace Go.Proofs.YtejifkeeihkcjaaDoor
section
open Go.RowKit

/-- A number's text: of the least one that of 2^63. -/
def numT (n : Int) : List UInt8 := if n = -9223372036854775808 then Lib.decDigits 9223372036854775808 else Lib.itoa n
/-- Right expressions. -/
inductive RX : XV → Prop
  | num (n l c : Int) (h : num6 n = true) : RX (.mk 0 n [] 0 [] l c)
  | var (x : List UInt8) (l c : Int) (h : name6 x = true) : RX (.mk 1 0 x 0 [] l c)
  | idx (x : List UInt8) (a : XV) (l c : Int) (h : name6 x = true) (ha : RX a) : RX (.mk 2 0 x 0 [a] l c)
  | un (o : Int) (a : XV) (l c : Int) (h : one6 o = true) (ha : RX a) : RX (.mk 3 0 [] o [a] l c)
  | bin (o : Int) (a b : XV) (l c : Int) (h : 0 ≤ o ∧ o ≤ 17) (ha : RX a) (hb : RX b) : RX (.mk 4 0 [] o [a, b] l c)
mutual
theorem rx_of : ∀ e : XV, rgx1 e = true → RX e
  | .mk k n x o gs l c, h => by
    unfold rgx1 at h
    rw [Bool.and_eq_true] at h
    have hg := rx_all gs h.1
    have h2 := of_decide_eq_true (show decide _ = true from h.2)
    rcases h2 with ⟨rfl, rfl, rfl, h3, h4⟩ | ⟨rfl, h3, rfl, rfl, h4⟩ | ⟨rfl, h3, rfl, rfl, h4⟩ | ⟨rfl, rfl, rfl, h4, h3⟩ | ⟨rfl, rfl, rfl, h4, h3, h5⟩
    · rw [List.eq_nil_of_length_eq_zero h4]; exact .num _ _ _ h3
    · rw [List.eq_nil_of_length_eq_zero h4]; exact .var _ _ _ h3
    · obtain ⟨a, rfl⟩ := List.length_eq_one_iff.1 h4
      exact .idx _ _ _ _ h3 (hg a (by simp))
    · obtain ⟨a, rfl⟩ := List.length_eq_one_iff.1 h4
      exact .un _ _ _ _ h3 (hg a (by simp))
    · obtain ⟨a, b, rfl⟩ : ∃ a b, gs = [a, b] := by
        match gs, h4 with
        | [a, b], _ => exact ⟨a, b, rfl⟩
      exact .bin _ _ _ _ _ ⟨h3, h5⟩ (hg a (by simp)) (hg b (by simp))
theorem rx_all : ∀ es : List XV, rgx es = true → ∀ e ∈ es, RX e
  | [], _, e, he => by simp at he
  | a :: r, h, e, he => by
    unfold rgx at h
    rw [Bool.and_eq_true] at h
    rcases List.mem_cons.1 he with h1 | he
    · rw [h1]; exact rx_of a h.1
    · exact rx_all r h.2 e he
end
mutual
/-- Without its positions. -/
def strip : XV → XV | .mk k n x o gs _ _ => .mk k n x o (strips gs) 0 0
def strips : List XV → List XV | [] => [] | e :: r => strip e :: strips r
end
mutual
theorem smx1_iff : ∀ e f : XV, smx1 e f = true ↔ strip e = strip f
  | .mk k n x o gs l c, .mk k' n' x' o' gs' l' c' => by
    unfold smx1 strip
    simp only [Bool.and_eq_true, beq_iff_eq, XV.mk.injEq, and_true]
    rw [smx_iff gs gs']
theorem smx_iff : ∀ es fs : List XV, smx es fs = true ↔ strips es = strips fs
  | [], [] => by simp [smx, strips]
  | [], _ :: _ => by simp [smx, strips]
  | _ :: _, [] => by simp [smx, strips]
  | a :: r, b :: s => by
    unfold smx strips
    simp only [Bool.and_eq_true, List.cons.injEq]
    rw [smx1_iff a b, smx_iff r s]
end
@[simp] theorem strip_k (e : XV) : (strip e).k = e.k := by cases e; simp [strip, XV.k]
@[simp] theorem strip_o (e : XV) : (strip e).o = e.o := by cases e; simp [strip, XV.o]

/-- A layout: each token with the blanks ahead of it. -/
abbrev Lay := List (List UInt8 × List UInt8)
def toks (l : Lay) : List (List UInt8) := l.map Prod.snd
def byts (l : Lay) : List UInt8 := l.flatMap fun p => p.1 ++ p.2
theorem toks_append (a b : Lay) : toks (a ++ b) = toks a ++ toks b := by simp [toks]
theorem byts_append (a b : Lay) : byts (a ++ b) = byts a ++ byts b := by simp [byts]
theorem toks_cons (p : List UInt8 × List UInt8) (b : Lay) : toks (p :: b) = p.2 :: toks b := rfl
theorem byts_cons (p : List UInt8 × List UInt8) (b : Lay) : byts (p :: b) = p.1 ++ p.2 ++ byts b := by simp [byts]

/-- In round brackets, or not. -/
def brL (b : Bool) (t : List UInt8 → Lay) (g : List UInt8) : Lay := if b then (g, [40]) :: (t [] ++ [([], [41])]) else t g
def hd0 (ks : List (Int × Int)) : Int × Int := ks.headD (0, 0)
def hd1 (ks : List (Int × Int)) : Int × Int := ks.tail.headD (0, 0)
def mkL (k n : Int) (x : List UInt8) (o : Int) (ks : List (Int × Int)) (ts : List (List UInt8 → Lay)) (g : List UInt8) : Lay :=
  if k = 0 then [(g, numT n)]
  else if k = 2 then (g, x) :: ([], [91]) :: ((ts.headD fun _ => []) [] ++ [([], [93])])
  else if k = 3 then (g, txt6 o) :: brL (decide ((hd0 ks).1 = 4)) (ts.headD fun _ => []) []
  else if k = 4 then brL (decide ((hd0 ks).1 = 4 ∧ lev6 (hd0 ks).2 < lev6 o)) (ts.headD fun _ => []) g ++ ([32], txt6 o) :: brL (decide ((hd1 ks).1 = 4 ∧ lev6 (hd1 ks).2 ≤ lev6 o)) (ts.tail.headD fun _ => []) [32]
  else [(g, x)]
mutual
def layX : XV → List UInt8 → Lay | .mk k n x o gs _ _ => mkL k n x o (gs.map fun e => (e.k, e.o)) (layXs gs)
def layXs : List XV → List (List UInt8 → Lay) | [] => [] | e :: r => layX e :: layXs r
end
section
variable (n o l c : Int) (x g : List UInt8) (a b : XV)
theorem layX_num : layX (.mk 0 n [] 0 [] l c) g = [(g, numT n)] := by simp [layX, mkL]
theorem layX_var : layX (.mk 1 0 x 0 [] l c) g = [(g, x)] := by simp [layX, mkL]
theorem layX_idx : layX (.mk 2 0 x 0 [a] l c) g = (g, x) :: ([], [91]) :: (layX a [] ++ [([], [93])]) := by simp [layX, mkL, layXs]
theorem layX_un : layX (.mk 3 0 [] o [a] l c) g = (g, txt6 o) :: brL (decide (a.k = 4)) (layX a) [] := by simp [layX, mkL, layXs, hd0]
theorem layX_bin : layX (.mk 4 0 [] o [a, b] l c) g = brL (decide (a.k = 4 ∧ lev6 a.o < lev6 o)) (layX a) g ++ ([32], txt6 o) :: brL (decide (b.k = 4 ∧ lev6 b.o ≤ lev6 o)) (layX b) [32] := by simp [layX, mkL, layXs, hd0, hd1]
end

/-! ### Numbers -/
theorem dec_digits (u : Nat) : ∀ c ∈ Lib.decDigits u, dgt c = true := by
  induction u using Nat.strongRecOn with
  | ind u ih =>
    rw [Lib.decDigits]
    split
    · intro c hc
      rw [List.mem_singleton.1 hc]
      unfold dgt
      have : (UInt8.ofNat (48 + u)).toNat = 48 + u := by rw [UInt8.toNat_ofNat']; omega
      rw [this]
      exact decide_eq_true (by omega)
    · intro c hc
      rcases List.mem_append.1 hc with hc | hc
      · exact ih _ (by omega) c hc
      · rw [List.mem_singleton.1 hc]
        unfold dgt
        have : (UInt8.ofNat (48 + u % 10)).toNat = 48 + u % 10 := by rw [UInt8.toNat_ofNat']; omega
        rw [this]
        exact decide_eq_true (by omega)
theorem dec_ne (u : Nat) : Lib.decDigits u ≠ [] := by
  rw [Lib.decDigits]
  split <;> simp
theorem dec_int (u : Nat) : isIntB (Lib.decDigits u) = true := by
  unfold isIntB
  rw [Bool.and_eq_true, List.all_eq_true]
  refine ⟨?_, dec_digits u⟩
  have := dec_ne u
  cases h : Lib.decDigits u with
  | nil => exact absurd h this
  | cons a r => rfl
theorem dec_numW (u : Nat) (h : u < LB) : numW (Lib.decDigits u) = u := by
  induction u using Nat.strongRecOn with
  | ind u ih =>
    rw [Lib.decDigits]
    have e : ∀ d, d < 10 → (UInt8.ofNat (48 + d) - 48).toNat = d := fun d hd => by
      rw [UInt8.toNat_sub, UInt8.toNat_ofNat']
      show (2 ^ 8 - 48 + (48 + d) % 2 ^ 8) % 2 ^ 8 = d
      omega
    split
    · next h1 =>
      unfold numW
      simp only [List.foldl_cons, List.foldl_nil]
      rw [e u h1]
      have h : u < 18446744073709551616 := h
      rw [show LB = 18446744073709551616 from rfl]
      omega
    · have h2 := ih (u / 10) (by omega) (by omega)
      unfold numW at h2 ⊢
      rw [List.foldl_append, h2]
      simp only [List.foldl_cons, List.foldl_nil]
      rw [e _ (by omega)]
      have h : u < 18446744073709551616 := h
      rw [show LB = 18446744073709551616 from rfl]
      omega
theorem dec_head (u : Nat) (h : 1 ≤ u) : ∃ c r, Lib.decDigits u = c :: r ∧ c ≠ 48 := by
  induction u using Nat.strongRecOn with
  | ind u ih =>
    rw [Lib.decDigits]
    split
    · refine ⟨_, [], rfl, fun e => ?_⟩
      have := congrArg UInt8.toNat e
      rw [UInt8.toNat_ofNat'] at this
      have h48 : (48 : UInt8).toNat = 48 := rfl
      rw [h48] at this
      omega
    · obtain ⟨c, r, h1, h2⟩ := ih (u / 10) (by omega) (by omega)
      exact ⟨c, _, by rw [h1]; rfl, h2⟩
theorem num_nat {n : Int} (h : num6 n = true) : ∃ u : Nat, numT n = Lib.decDigits u ∧ (u : Int) = (if n = -9223372036854775808 then 9223372036854775808 else n) := by
  have h := of_decide_eq_true (show decide _ = true from h)
  unfold numT
  split
  · exact ⟨9223372036854775808, rfl, rfl⟩
  · refine ⟨n.toNat, ?_, by omega⟩
    have := Lib.itoa_nonneg n.toNat
    rw [show ((n.toNat : Nat) : Int) = n by omega] at this
    exact this
theorem num_val {n : Int} (h : num6 n = true) (hn : n ≤ 9223372036854775807) : IntKind.i64.wrap (numW (numT n)) = n := by
  obtain ⟨u, h1, h2⟩ := num_nat h
  have h := of_decide_eq_true (show decide _ = true from h)
  have hu : u < LB := by
    have : LB = 18446744073709551616 := rfl
    split at h2 <;> omega
  rw [h1, dec_numW u hu, h2]
  split
  · next e => rw [e]; decide
  · exact wrap_small _ (by omega) (by omega)
end

section
open Go.RowKit

mutual
/-- Operators of some level, and tighter ones. -/
def pE : Nat → Nat → List (List UInt8) → Option (XV × List (List UInt8))
  | 0, _, _ => none
  | f + 1, lv, ts => if 9 < lv then pU f ts else
    match pE f (lv + 1) ts with
    | none => none
    | some (a, r) => pL f lv a r
def pL : Nat → Nat → XV → List (List UInt8) → Option (XV × List (List UInt8))
  | 0, _, _, _ => none
  | _ + 1, _, a, [] => some (a, [])
  | f + 1, lv, a, t :: r => if (op6 t false).2 = true ∧ lev6 (op6 t false).1 = (lv : Int) then
      match pE f (lv + 1) r with
      | none => none
      | some (b, r') => pL f lv (.mk 4 0 [] (op6 t false).1 [a, b] 0 0) r'
    else some (a, t :: r)
def pU : Nat → List (List UInt8) → Option (XV × List (List UInt8))
  | 0, _ => none
  | _ + 1, [] => none
  | f + 1, t :: r => if (op6 t true).2 = true then
      match pU f r with
      | none => none
      | some (a, r') => some (.mk 3 0 [] (op6 t true).1 [a] 0 0, r')
    else if t = [40] then
      match pE f 1 r with
      | some (a, u :: r') => if u = [41] then some (a, r') else none
      | _ => none
    else if isIntB t = true then some (.mk 0 (IntKind.i64.wrap (numW t)) [] 0 [] 0 0, r)
    else match r with
      | u :: r2 => if u = [91] then
          match pE f 1 r2 with
          | some (a, v :: r3) => if v = [93] then some (.mk 2 0 t 0 [a] 0 0, r3) else none
          | _ => none
        else some (.mk 1 0 t 0 [] 0 0, u :: r2)
      | [] => some (.mk 1 0 t 0 [] 0 0, [])
end
/-- With fuel enough that is what is read. -/
def Ev (F : Nat → Option (XV × List (List UInt8))) (a : XV) (r : List (List UInt8)) : Prop := ∃ f0, ∀ f, f0 ≤ f → F f = some (a, r)
theorem Ev.uniq {F : Nat → Option (XV × List (List UInt8))} {a b : XV} {r s : List (List UInt8)} (h : Ev F a r) (k : Ev F b s) : a = b ∧ r = s := by
  obtain ⟨f0, h⟩ := h
  obtain ⟨f1, k⟩ := k
  have e := (h (max f0 f1) (by omega)).symm.trans (k (max f0 f1) (by omega))
  injection e with e
  exact ⟨congrArg Prod.fst e, congrArg Prod.snd e⟩
theorem Ev.succ {G : Nat → Option (XV × List (List UInt8))} {a : XV} {r : List (List UInt8)} (f1 : Nat) (h : ∀ f, f1 ≤ f → G (f + 1) = some (a, r)) : Ev G a r := ⟨f1 + 1, fun f hf => by
  obtain ⟨k, rfl⟩ : ∃ k, f = k + 1 := ⟨f - 1, by omega⟩
  exact h k (by omega)⟩
section
variable {t x : List UInt8} {r r' s ts : List (List UInt8)} {a b c : XV} {o n : Int} {lv : Nat}
theorem ev_un (ho : op6 t true = (o, true)) (h : Ev (fun f => pU f r) a r') : Ev (fun f => pU f (t :: r)) (.mk 3 0 [] o [a] 0 0) r' := by
  obtain ⟨f0, h⟩ := h
  exact Ev.succ f0 fun f hf => by simp only [pU, ho]; rw [if_pos trivial, show pU f r = _ from h f hf]
theorem ev_par (h : Ev (fun f => pE f 1 r) a ([41] :: r')) : Ev (fun f => pU f ([40] :: r)) a r' := by
  obtain ⟨f0, h⟩ := h
  exact Ev.succ f0 fun f hf => by
    have e1 : ¬ (op6 [40] true).2 = true := by decide
    simp only [pU]
    rw [if_neg e1, if_pos trivial, show pE f 1 r = _ from h f hf]
    simp
theorem ev_num (h0 : (op6 t true).2 = false) (h1 : t ≠ [40]) (hi : isIntB t = true) : Ev (fun f => pU f (t :: r)) (.mk 0 (IntKind.i64.wrap (numW t)) [] 0 [] 0 0) r :=
  Ev.succ 0 fun f _ => by
    simp only [pU]
    rw [if_neg (by rw [h0]; simp), if_neg h1, if_pos hi]
theorem ev_var (h0 : (op6 t true).2 = false) (h1 : t ≠ [40]) (hi : isIntB t = false) (h2 : ∀ u r2, r = u :: r2 → u ≠ [91]) : Ev (fun f => pU f (t :: r)) (.mk 1 0 t 0 [] 0 0) r :=
  Ev.succ 0 fun f _ => by
    cases r with
    | nil =>
      simp only [pU]
      rw [if_neg (by rw [h0]; simp), if_neg h1, if_neg (by rw [hi]; simp)]
    | cons u r2 =>
      simp only [pU]
      rw [if_neg (by rw [h0]; simp), if_neg h1, if_neg (by rw [hi]; simp), if_neg (h2 u r2 rfl)]
theorem ev_idx (h0 : (op6 t true).2 = false) (h1 : t ≠ [40]) (hi : isIntB t = false) (h : Ev (fun f => pE f 1 r) a ([93] :: r')) : Ev (fun f => pU f (t :: [91] :: r)) (.mk 2 0 t 0 [a] 0 0) r' := by
  obtain ⟨f0, h⟩ := h
  exact Ev.succ f0 fun f hf => by
    simp only [pU]
    rw [if_neg (by rw [h0]; simp), if_neg h1, if_neg (by rw [hi]; simp), if_pos trivial, show pE f 1 r = _ from h f hf]
    simp
theorem ev_top (hl : 9 < lv) (h : Ev (fun f => pU f ts) a r) : Ev (fun f => pE f lv ts) a r := by
  obtain ⟨f0, h⟩ := h
  exact Ev.succ f0 fun f hf => by simp only [pE]; rw [if_pos hl]; exact h f hf
theorem ev_lv (hl : lv ≤ 9) (h : Ev (fun f => pE f (lv + 1) ts) a r) (k : Ev (fun f => pL f lv a r) b s) : Ev (fun f => pE f lv ts) b s := by
  obtain ⟨f0, h⟩ := h
  obtain ⟨f1, k⟩ := k
  exact Ev.succ (max f0 f1) fun f hf => by
    simp only [pE]
    rw [if_neg (by omega), show pE f (lv + 1) ts = _ from h f (by omega)]
    exact k f (by omega)
theorem ev_stop (h : ∀ t r', r = t :: r' → (op6 t false).2 = true → lev6 (op6 t false).1 ≠ (lv : Int)) : Ev (fun f => pL f lv a r) a r :=
  Ev.succ 0 fun f _ => by
    cases r with
    | nil => simp only [pL]
    | cons t r' =>
      simp only [pL]
      rw [if_neg fun hh => h t r' rfl hh.1 hh.2]
theorem ev_step (ho : op6 t false = (o, true)) (hl : lev6 o = (lv : Int)) (h : Ev (fun f => pE f (lv + 1) r) b r') (k : Ev (fun f => pL f lv (.mk 4 0 [] o [a, b] 0 0) r') c s) : Ev (fun f => pL f lv a (t :: r)) c s := by
  obtain ⟨f0, h⟩ := h
  obtain ⟨f1, k⟩ := k
  exact Ev.succ (max f0 f1) fun f hf => by
    simp only [pL, ho]
    rw [if_pos ⟨trivial, hl⟩, show pE f (lv + 1) r = _ from h f (by omega)]
    exact k f (by omega)
end

/-- What stands behind does not go on with that level, nor is it an index. -/
def Stop (m : Nat) (r : List (List UInt8)) : Prop := ∀ t r', r = t :: r' → t ≠ [91] ∧ ((op6 t false).2 = true → lev6 (op6 t false).1 < (m : Int))
theorem Stop.mono {m m' : Nat} {r : List (List UInt8)} (h : Stop m r) (hm : m ≤ m') : Stop m' r := fun t r' e => ⟨(h t r' e).1, fun h2 => by have := (h t r' e).2 h2; omega⟩
def Fits (e : XV) (lv : Nat) : Prop := e.k = 4 → (lv : Int) ≤ lev6 e.o
theorem two_ops : ∀ o : Int, 0 ≤ o ∧ o ≤ 17 → op6 (txt6 o) false = (o, true) ∧ txt6 o ≠ [91] ∧ 1 ≤ lev6 o ∧ lev6 o ≤ 9 := fun q h => by
  obtain ⟨k, rfl⟩ : ∃ k : Nat, q = k := ⟨q.toNat, by omega⟩
  have : ∀ k : Fin 18, op6 (txt6 (k.val : Nat)) false = (((k.val : Nat) : Int), true) ∧ txt6 (k.val : Nat) ≠ [91] ∧ 1 ≤ lev6 (k.val : Nat) ∧ lev6 (k.val : Nat) ≤ 9 := by decide
  exact this ⟨k, by omega⟩
theorem one_ops : ∀ o : Int, one6 o = true → op6 (txt6 o) true = (o, true) := fun q h => by
  have h := of_decide_eq_true (show decide _ = true from h)
  obtain rfl | rfl | rfl : q = 18 ∨ q = 19 ∨ q = 20 := by omega
  all_goals decide
/-- A word, an int is no operator, no bracket. -/
theorem op6_mem {t : List UInt8} {b : Bool} (h : (op6 t b).2 = true) : t ∈ ops6 := by
  unfold op6 at h
  split at h
  · next i hi =>
    have h1 := List.find?_some hi
    have h2 := of_decide_eq_true (show decide _ = true from h1)
    have h3 := List.mem_of_find?_eq_some hi
    rw [List.mem_range] at h3
    rw [← h2.1]
    have : ∀ k : Fin 21, txt6 (k.val : Nat) ∈ ops6 := by decide
    exact this ⟨i, h3⟩
  · cases h
theorem ops_head : ∀ t ∈ ops6, ∃ c r, t = c :: r ∧ ltr c = false ∧ dgt c = false := by
  intro t ht
  have : ∀ t ∈ ops6, (match t with | [] => false | c :: _ => !ltr c && !dgt c) = true := by decide
  have h := this t ht
  cases t with
  | nil => simp at h
  | cons c r => exact ⟨c, r, rfl, by simpa using h⟩
theorem word_facts {x : List UInt8} (h : isWordB x = true) : (∀ b, (op6 x b).2 = false) ∧ x ≠ [40] ∧ isIntB x = false ∧ x ≠ [91] := by
  cases x with
  | nil => simp [isWordB] at h
  | cons c r =>
    unfold isWordB at h
    rw [Bool.and_eq_true] at h
    have hd : dgt c = false := by
      cases hd : dgt c with
      | false => rfl
      | true =>
        have h1 := of_decide_eq_true (show decide _ = true from hd)
        have h2 := of_decide_eq_true (show decide _ = true from h.1)
        omega
    refine ⟨fun b => ?_, fun e => ?_, ?_, fun e => ?_⟩
    · cases hb : (op6 (c :: r) b).2 with
      | false => rfl
      | true =>
        obtain ⟨c', r', e, h1, h2⟩ := ops_head _ (op6_mem hb)
        injection e with e1 _
        rw [← e1, h.1] at h1
        cases h1
    · injection e with e _
      rw [e] at h
      exact absurd h.1 (by decide)
    · unfold isIntB
      simp [hd]
    · injection e with e _
      rw [e] at h
      exact absurd h.1 (by decide)
theorem int_facts {x : List UInt8} (h : isIntB x = true) : (∀ b, (op6 x b).2 = false) ∧ x ≠ [40] ∧ x ≠ [91] := by
  unfold isIntB at h
  rw [Bool.and_eq_true, List.all_eq_true] at h
  cases x with
  | nil => simp at h
  | cons c r =>
    have hd := h.2 c (by simp)
    refine ⟨fun b => ?_, fun e => ?_, fun e => ?_⟩
    · cases hb : (op6 (c :: r) b).2 with
      | false => rfl
      | true =>
        obtain ⟨c', r', e, h1, h2⟩ := ops_head _ (op6_mem hb)
        injection e with e1 _
        rw [← e1, hd] at h2
        cases h2
    · injection e with e _
      rw [e] at hd
      exact absurd hd (by decide)
    · injection e with e _
      rw [e] at hd
      exact absurd hd (by decide)
theorem name_word {x : List UInt8} (h : name6 x = true) : isWordB x = true := by
  unfold name6 word6 at h
  rw [Bool.and_eq_true, Bool.and_eq_true] at h
  exact h.1.1
theorem num_int {n : Int} (h : num6 n = true) : isIntB (numT n) = true := by
  obtain ⟨u, h1, -⟩ := num_nat h
  rw [h1]
  exact dec_int u
/-- What has no operator outside of brackets is read at any level. -/
theorem prim_all {ts r : List (List UInt8)} {a : XV} (h : Ev (fun f => pU f ts) a r) : ∀ (d lv : Nat), lv + d = 10 → Stop lv r → Ev (fun f => pE f lv ts) a r
  | 0, lv, hl, _ => ev_top (by omega) h
  | d + 1, lv, hl, hs => ev_lv (by omega) (prim_all h d (lv + 1) (by omega) (hs.mono (by omega))) (ev_stop fun t r' e ho he => by have := (hs t r' e).2 ho; omega)
/-- Numbers within int64. -/
inductive In : XV → Prop
  | mk (k n : Int) (x : List UInt8) (o : Int) (gs : List XV) (l c : Int) (h : n ≤ 9223372036854775807) (hg : ∀ e ∈ gs, In e) : In (.mk k n x o gs l c)
theorem In.n {e : XV} (h : In e) : e.n ≤ 9223372036854775807 := by cases h; assumption
theorem In.gs {e : XV} (h : In e) : ∀ a ∈ e.gs, In a := by cases h; assumption

def RB (e : XV) : Prop :=
  (∀ (lv : Nat) r, 1 ≤ lv → lv ≤ 10 → Fits e lv → Stop lv r → Ev (fun f => pE f lv (toks (layX e []) ++ r)) (strip e) r) ∧
  (∀ (lv : Nat) r c s, 1 ≤ lv → lv ≤ 9 → Fits e lv → Stop (lv + 1) r → Ev (fun f => pL f lv (strip e) r) c s → Ev (fun f => pE f lv (toks (layX e []) ++ r)) c s) ∧
  (e.k ≠ 4 → ∀ r, (∀ t r', r = t :: r' → t ≠ [91]) → Ev (fun f => pU f (toks (layX e []) ++ r)) (strip e) r)
/-- The gap ahead does not matter. -/
theorem toks_br (b : Bool) (t : List UInt8 → Lay) (g : List UInt8) (ht : ∀ g g', toks (t g) = toks (t g')) : toks (brL b t g) = if b then [40] :: (toks (t []) ++ [[41]]) else toks (t []) := by
  unfold brL
  cases b with
  | false => simp [ht g []]
  | true => simp [toks_cons, toks_append]; rfl
theorem toks_gap (e : XV) (h : RX e) : ∀ g g', toks (layX e g) = toks (layX e g') := by
  induction h with
  | num n l c h => intro g g'; rw [layX_num, layX_num]; rfl
  | var x l c h => intro g g'; rw [layX_var, layX_var]; rfl
  | idx x a l c h ha ih => intro g g'; rw [layX_idx, layX_idx]; rfl
  | un o a l c h ha ih => intro g g'; rw [layX_un, layX_un]; rfl
  | bin o a b l c h ha hb iha ihb =>
    intro g g'
    rw [layX_bin, layX_bin, toks_append, toks_append, toks_br _ _ g iha, toks_br _ _ g' iha]
theorem rb_prim {e : XV} (hu : ∀ r, (∀ t r', r = t :: r' → t ≠ [91]) → Ev (fun f => pU f (toks (layX e []) ++ r)) (strip e) r) : RB e := by
  refine ⟨fun lv r h1 h2 _ hs => prim_all (hu r fun t r' e => (hs t r' e).1) (10 - lv) lv (by omega) hs, fun lv r c s h1 h2 _ hs hc => ?_, fun _ => hu⟩
  exact ev_lv h2 (prim_all (hu r fun t r' e => (hs t r' e).1) (10 - (lv + 1)) (lv + 1) (by omega) hs) hc
theorem stop_tok {t : List UInt8} (h1 : t ≠ [91]) (h2 : (op6 t false).2 = false) (m : Nat) (r : List (List UInt8)) : Stop m (t :: r) := fun u r' e => by
  injection e with e _
  subst e
  exact ⟨h1, fun h => by rw [h2] at h; cases h⟩
/-- In brackets. -/
theorem rb_par {a : XV} (h : RB a) (hk : 1 ≤ lev6 a.o ∨ a.k ≠ 4) (r : List (List UInt8)) : Ev (fun f => pU f ([40] :: (toks (layX a []) ++ [[41]]) ++ r)) (strip a) r := by
  have h1 := h.1 1 ([41] :: r) (by omega) (by omega) (fun h4 => by rcases hk with hk | hk; exact hk; exact absurd h4 hk) (stop_tok (by decide) (by decide) _ _)
  have h2 := ev_par h1
  simpa using h2
theorem rx_lev {a : XV} (h : RX a) : 1 ≤ lev6 a.o ∨ a.k ≠ 4 := by
  cases h with
  | bin o a b l c h ha hb => exact Or.inl (two_ops o h).2.2.1
  | _ => exact Or.inr (by simp [XV.k])
/-- An expression's tokens, read, are that expression. -/
theorem rb (e : XV) (h : RX e) (hin : In e) : RB e := by
  induction h with
  | num n l c h =>
    refine rb_prim fun r _ => ?_
    rw [layX_num]
    have hi := num_int h
    have := ev_num (r := r) ((int_facts hi).1 true) (int_facts hi).2.1 hi
    rw [num_val h hin.n] at this
    simpa [toks, strip, strips] using this
  | var x l c h =>
    refine rb_prim fun r hr => ?_
    rw [layX_var]
    obtain ⟨h1, h2, h3, -⟩ := word_facts (name_word h)
    simpa [toks, strip, strips] using ev_var (r := r) (h1 true) h2 h3 fun u r2 e => hr u r2 e
  | idx x a l c h ha ih =>
    refine rb_prim fun r hr => ?_
    rw [layX_idx]
    obtain ⟨h1, h2, h3, -⟩ := word_facts (name_word h)
    have ih := ih (hin.gs a (by simp [XV.gs]))
    have q := ih.1 1 ([93] :: r) (by omega) (by omega) (fun h4 => by rcases rx_lev ha with hk | hk; exact hk; exact absurd h4 hk) (stop_tok (by decide) (by decide) _ _)
    have := ev_idx (h1 true) h2 h3 q
    simpa [toks_cons, toks_append, toks, strip, strips] using this
  | un o a l c h ha ih =>
    refine rb_prim fun r hr => ?_
    have ih := ih (hin.gs a (by simp [XV.gs]))
    rw [layX_un, toks_cons, toks_br _ _ _ (toks_gap a ha), List.cons_append]
    refine (ev_un (one_ops o h) (a := strip a) ?_ : Ev _ (strip (.mk 3 0 [] o [a] l c)) r)
    by_cases h4 : a.k = 4
    · rw [if_pos (by simpa using h4)]
      exact rb_par ih (rx_lev ha) r
    · rw [if_neg (by simpa using h4)]
      exact ih.2.2 h4 r hr
  | bin o a b l c h ha hb iha ihb =>
    have iha := iha (hin.gs a (by simp [XV.gs]))
    have ihb := ihb (hin.gs b (by simp [XV.gs]))
    obtain ⟨ho, hne, hl1, hl9⟩ := two_ops o h
    obtain ⟨L, hL⟩ : ∃ L : Nat, lev6 o = L := ⟨(lev6 o).toNat, by omega⟩
    have ht : toks (layX (.mk 4 0 [] o [a, b] l c) []) = (if decide (a.k = 4 ∧ lev6 a.o < lev6 o) then [40] :: (toks (layX a []) ++ [[41]]) else toks (layX a [])) ++ txt6 o :: (if decide (b.k = 4 ∧ lev6 b.o ≤ lev6 o) then [40] :: (toks (layX b []) ++ [[41]]) else toks (layX b [])) := by
      rw [layX_bin, toks_append, toks_cons, toks_br _ _ _ (toks_gap a ha), toks_br _ _ _ (toks_gap b hb)]
    -- the right operand
    have hR : ∀ r, Stop (L + 1) r → Ev (fun f => pE f (L + 1) ((if decide (b.k = 4 ∧ lev6 b.o ≤ lev6 o) then [40] :: (toks (layX b []) ++ [[41]]) else toks (layX b [])) ++ r)) (strip b) r := fun r hr => by
      by_cases h4 : b.k = 4 ∧ lev6 b.o ≤ lev6 o
      · rw [if_pos (decide_eq_true h4)]
        exact prim_all (rb_par ihb (rx_lev hb) r) (10 - (L + 1)) (L + 1) (by omega) hr
      · rw [if_neg (by simpa using h4)]
        exact ihb.1 (L + 1) r (by omega) (by omega) (fun hk => by
          have : ¬ lev6 b.o ≤ lev6 o := fun h => h4 ⟨hk, h⟩
          omega) hr
    -- the left operand
    have hA : ∀ r c s, Stop (L + 1) r → Ev (fun f => pL f L (strip a) r) c s → Ev (fun f => pE f L ((if decide (a.k = 4 ∧ lev6 a.o < lev6 o) then [40] :: (toks (layX a []) ++ [[41]]) else toks (layX a [])) ++ r)) c s := fun r c s hr hc => by
      by_cases h4 : a.k = 4 ∧ lev6 a.o < lev6 o
      · rw [if_pos (decide_eq_true h4)]
        exact ev_lv (by omega) (prim_all (rb_par iha (rx_lev ha) r) (10 - (L + 1)) (L + 1) (by omega) hr) hc
      · rw [if_neg (by simpa using h4)]
        exact iha.2.1 L r c s (by omega) (by omega) (fun hk => by
          have : ¬ lev6 a.o < lev6 o := fun h => h4 ⟨hk, h⟩
          omega) hr hc
    have hCL : ∀ r c' s, Stop (L + 1) r → Ev (fun f => pL f L (strip (.mk 4 0 [] o [a, b] l c)) r) c' s → Ev (fun f => pE f L (toks (layX (.mk 4 0 [] o [a, b] l c) []) ++ r)) c' s := fun r c' s hr hc => by
      rw [ht, List.append_assoc, List.cons_append]
      refine hA _ _ _ (fun u r' e => ?_) (ev_step ho hL (hR r hr) (by simpa [strip, strips] using hc))
      injection e with e _
      subst e
      exact ⟨hne, fun _ => by rw [ho]; show lev6 o < _; omega⟩
    have hEL : ∀ r, Stop L r → Ev (fun f => pE f L (toks (layX (.mk 4 0 [] o [a, b] l c) []) ++ r)) (strip (.mk 4 0 [] o [a, b] l c)) r := fun r hr =>
      hCL r _ _ (hr.mono (by omega)) (ev_stop fun t r' e ho he => by have := (hr t r' e).2 ho; omega)
    have hE : ∀ (d lv : Nat) r, lv + d = L → Stop lv r → Ev (fun f => pE f lv (toks (layX (.mk 4 0 [] o [a, b] l c) []) ++ r)) (strip (.mk 4 0 [] o [a, b] l c)) r := fun d => by
      induction d with
      | zero => intro lv r hd hr; obtain rfl : lv = L := by omega
                exact hEL r hr
      | succ d ih => intro lv r hd hr; exact ev_lv (by omega) (ih (lv + 1) r (by omega) (hr.mono (by omega))) (ev_stop fun t r' e ho he => by have := (hr t r' e).2 ho; omega)
    refine ⟨fun lv r h1 h2 hf hr => ?_, fun lv r c' s h1 h2 hf hr hc => ?_, fun h4 => absurd rfl h4⟩
    · have hf : (lv : Int) ≤ lev6 o := hf rfl
      exact hE (L - lv) lv r (by omega) hr
    · have hf : (lv : Int) ≤ lev6 o := hf rfl
      by_cases he : lv = L
      · subst he
        exact hCL r c' s hr hc
      · exact ev_lv h2 (hE (L - (lv + 1)) (lv + 1) r (by omega) hr) hc
/-- Expressions with the same tokens, and what stands behind, are the same. -/
theorem tokens_inj {e f : XV} (he : RX e) (hf : RX f) (ie : In e) (jf : In f) {r s : List (List UInt8)} (hr : Stop 1 r) (hs : Stop 1 s) (h : toks (layX e []) ++ r = toks (layX f []) ++ s) : smx1 e f = true ∧ r = s := by
  have q1 := (rb e he ie).1 1 r (by omega) (by omega) (fun h4 => by rcases rx_lev he with hk | hk; exact hk; exact absurd h4 hk) hr
  have q2 := (rb f hf jf).1 1 s (by omega) (by omega) (fun h4 => by rcases rx_lev hf with hk | hk; exact hk; exact absurd h4 hk) hs
  rw [h] at q1
  obtain ⟨e1, e2⟩ := q1.uniq q2
  exact ⟨(smx1_iff e f).2 e1, e2⟩
end

section
open Go.RowKit

def kIf : List UInt8 := [105, 102]
def kElse : List UInt8 := [101, 108, 115, 101]
def kWhile : List UInt8 := [119, 104, 105, 108, 101]
def kOutput : List UInt8 := [111, 117, 116, 112, 117, 116]
def kCall : List UInt8 := [99, 97, 108, 108]
def kSkip : List UInt8 := [115, 107, 105, 112]
/-- A line's beginning. -/
def nl (d : Nat) : List UInt8 := 10 :: List.replicate (2 * d) 32
/-- Expressions with commas ahead; with commas between. -/
def layC : List XV → Lay
  | [] => []
  | e :: r => ([], [44]) :: (layX e [32] ++ layC r)
def layA : List XV → Lay
  | [] => []
  | e :: r => layX e [] ++ layC r
def mkS (k : Int) (x : List UInt8) (es : List XV) (t u : Lay) (no : Bool) (d : Nat) : Lay :=
  let e := fun g => (es.map layX).headD (fun _ => []) g
  let f := fun g => (es.tail.map layX).headD (fun _ => []) g
  if k = 0 then (nl d, x) :: ([32], [61]) :: (e [32] ++ [([], [59])])
  else if k = 1 then (nl d, x) :: ([], [91]) :: (e [] ++ ([], [93]) :: ([32], [61]) :: (f [32] ++ [([], [59])]))
  else if k = 2 then (nl d, kIf) :: (e [32] ++ ([32], [123]) :: (t ++ (nl d, [125]) :: (if no then [] else ([32], kElse) :: ([32], [123]) :: (u ++ [(nl d, [125])]))))
  else if k = 3 then (nl d, kWhile) :: (e [32] ++ ([32], [123]) :: (t ++ [(nl d, [125])]))
  else if k = 4 then (nl d, kOutput) :: (e [32] ++ [([], [59])])
  else if k = 5 then (nl d, kCall) :: ([32], x) :: ([], [40]) :: (layA es ++ [([], [41]), ([], [59])])
  else [(nl d, kSkip), ([], [59])]
mutual
def layS : SV → Nat → Lay | .mk k x es ts us _ _, d => mkS k x es (layB ts (d + 1)) (layB us (d + 1)) us.isEmpty d
def layB : List SV → Nat → Lay | [], _ => [] | s :: r, d => layS s d ++ layB r d
end
/-- Right statements. -/
inductive RS : SV → Prop
  | assign (x : List UInt8) (e : XV) (l c : Int) (h : name6 x = true) (he : RX e) : RS (.mk 0 x [e] [] [] l c)
  | store (x : List UInt8) (i e : XV) (l c : Int) (h : name6 x = true) (hi : RX i) (he : RX e) : RS (.mk 1 x [i, e] [] [] l c)
  | iff (e : XV) (ts us : List SV) (l c : Int) (he : RX e) (ht : ∀ s ∈ ts, RS s) (hu : ∀ s ∈ us, RS s) : RS (.mk 2 [] [e] ts us l c)
  | wh (e : XV) (ts : List SV) (l c : Int) (he : RX e) (ht : ∀ s ∈ ts, RS s) : RS (.mk 3 [] [e] ts [] l c)
  | out (e : XV) (l c : Int) (he : RX e) : RS (.mk 4 [] [e] [] [] l c)
  | call (x : List UInt8) (es : List XV) (l c : Int) (h : name6 x = true) (he : ∀ e ∈ es, RX e) : RS (.mk 5 x es [] [] l c)
  | skip (l c : Int) : RS (.mk 6 [] [] [] [] l c)
mutual
theorem rs_of : ∀ s : SV, rgs1 s = true → RS s
  | .mk k x es ts us l c, h => by
    unfold rgs1 at h
    simp only [Bool.and_eq_true] at h
    obtain ⟨h1, h2, h3, h4⟩ := h
    have he := rx_all es h1
    have ht := rs_all ts h2
    have hu := rs_all us h3
    have h5 := of_decide_eq_true (show decide _ = true from h4)
    rcases h5 with ⟨rfl, h6, h7, h8, h9⟩ | ⟨rfl, h6, h7, h8, h9⟩ | ⟨rfl, rfl, h7⟩ | ⟨rfl, rfl, h7, h9⟩ | ⟨rfl, rfl, h7, h8, h9⟩ | ⟨rfl, h6, h8, h9⟩ | ⟨rfl, rfl, h7, h8, h9⟩
    · obtain ⟨a, rfl⟩ := List.length_eq_one_iff.1 h7
      rw [List.eq_nil_of_length_eq_zero h8, List.eq_nil_of_length_eq_zero h9]
      exact .assign _ _ _ _ h6 (he a (by simp))
    · obtain ⟨a, b, rfl⟩ : ∃ a b, es = [a, b] := by
        match es, h7 with
        | [a, b], _ => exact ⟨a, b, rfl⟩
      rw [List.eq_nil_of_length_eq_zero h8, List.eq_nil_of_length_eq_zero h9]
      exact .store _ _ _ _ _ h6 (he a (by simp)) (he b (by simp))
    · obtain ⟨a, rfl⟩ := List.length_eq_one_iff.1 h7
      exact .iff _ _ _ _ _ (he a (by simp)) ht hu
    · obtain ⟨a, rfl⟩ := List.length_eq_one_iff.1 h7
      rw [List.eq_nil_of_length_eq_zero h9]
      exact .wh _ _ _ _ (he a (by simp)) ht
    · obtain ⟨a, rfl⟩ := List.length_eq_one_iff.1 h7
      rw [List.eq_nil_of_length_eq_zero h8, List.eq_nil_of_length_eq_zero h9]
      exact .out _ _ _ (he a (by simp))
    · rw [List.eq_nil_of_length_eq_zero h8, List.eq_nil_of_length_eq_zero h9]
      exact .call _ _ _ _ h6 he
    · rw [List.eq_nil_of_length_eq_zero h7, List.eq_nil_of_length_eq_zero h8, List.eq_nil_of_length_eq_zero h9]
      exact .skip _ _
theorem rs_all : ∀ l : List SV, rgs l = true → ∀ s ∈ l, RS s
  | [], _, s, hs => by simp at hs
  | a :: r, h, s, hs => by
    unfold rgs at h
    rw [Bool.and_eq_true] at h
    rcases List.mem_cons.1 hs with h1 | hs
    · rw [h1]; exact rs_of a h.1
    · exact rs_all r h.2 s hs
end
section
variable (x : List UInt8) (e i : XV) (es : List XV) (ts us : List SV) (l c : Int) (d : Nat)
theorem layS_assign : layS (.mk 0 x [e] [] [] l c) d = (nl d, x) :: ([32], [61]) :: (layX e [32] ++ [([], [59])]) := by simp [layS, mkS]
theorem layS_store : layS (.mk 1 x [i, e] [] [] l c) d = (nl d, x) :: ([], [91]) :: (layX i [] ++ ([], [93]) :: ([32], [61]) :: (layX e [32] ++ [([], [59])])) := by simp [layS, mkS]
theorem layS_iff : layS (.mk 2 [] [e] ts us l c) d = (nl d, kIf) :: (layX e [32] ++ ([32], [123]) :: (layB ts (d + 1) ++ (nl d, [125]) :: (if us.isEmpty then [] else ([32], kElse) :: ([32], [123]) :: (layB us (d + 1) ++ [(nl d, [125])])))) := by simp [layS, mkS]
theorem layS_wh : layS (.mk 3 [] [e] ts [] l c) d = (nl d, kWhile) :: (layX e [32] ++ ([32], [123]) :: (layB ts (d + 1) ++ [(nl d, [125])])) := by simp [layS, mkS]
theorem layS_out : layS (.mk 4 [] [e] [] [] l c) d = (nl d, kOutput) :: (layX e [32] ++ [([], [59])]) := by simp [layS, mkS]
theorem layS_call : layS (.mk 5 x es [] [] l c) d = (nl d, kCall) :: ([32], x) :: ([], [40]) :: (layA es ++ [([], [41]), ([], [59])]) := by simp [layS, mkS]
theorem layS_skip : layS (.mk 6 [] [] [] [] l c) d = [(nl d, kSkip), ([], [59])] := by simp [layS, mkS]
end
mutual
/-- Numbers within int64. -/
def inX : XV → Bool | .mk _ n _ _ gs _ _ => decide (n ≤ 9223372036854775807) && inXs gs
def inXs : List XV → Bool | [] => true | e :: r => inX e && inXs r
end
mutual
theorem in_of : ∀ e : XV, inX e = true → In e
  | .mk k n x o gs l c, h => by
    unfold inX at h
    rw [Bool.and_eq_true] at h
    exact .mk _ _ _ _ _ _ _ (of_decide_eq_true h.1) (in_all gs h.2)
theorem in_all : ∀ es : List XV, inXs es = true → ∀ e ∈ es, In e
  | [], _, e, he => by simp at he
  | a :: r, h, e, he => by
    unfold inXs at h
    rw [Bool.and_eq_true] at h
    rcases List.mem_cons.1 he with h1 | he
    · rw [h1]; exact in_of a h.1
    · exact in_all r h.2 e he
end
mutual
def inS : SV → Bool | .mk _ _ es ts us _ _ => inXs es && (inSs ts && inSs us)
def inSs : List SV → Bool | [] => true | e :: r => inS e && inSs r
end
theorem inS_es {s : SV} (h : inS s = true) : ∀ e ∈ s.es, In e := by
  cases s
  unfold inS at h
  rw [Bool.and_eq_true] at h
  exact in_all _ h.1
theorem inS_ts {s : SV} (h : inS s = true) : inSs s.ts = true := by
  cases s
  unfold inS at h
  simp only [Bool.and_eq_true] at h
  exact h.2.1
theorem inS_us {s : SV} (h : inS s = true) : inSs s.us = true := by
  cases s
  unfold inS at h
  simp only [Bool.and_eq_true] at h
  exact h.2.2

/-! ### The first token -/
def HdX (t : List UInt8) : Prop := isWordB t = true ∧ t ∉ kws6 ∨ isIntB t = true ∨ t = [40] ∨ t = [45] ∨ t = [33] ∨ t = [126]
theorem name_not {x : List UInt8} (h : name6 x = true) : isWordB x = true ∧ x ∉ kws6 := ⟨name_word h, by
  unfold name6 at h
  rw [Bool.and_eq_true] at h
  intro hm
  have := List.contains_iff_mem.2 hm
  rw [this] at h
  simp at h⟩
theorem layX_head (e : XV) (h : RX e) : ∀ g, ∃ t r, layX e g = (g, t) :: r ∧ HdX t := by
  have br : ∀ (b : Bool) (a : XV) (g : List UInt8), (∃ t r, layX a g = (g, t) :: r ∧ HdX t) → ∃ t r, brL b (layX a) g = (g, t) :: r ∧ HdX t := fun b a g ih => by
    unfold brL
    cases b with
    | false => exact ih
    | true => exact ⟨[40], _, rfl, .inr (.inr (.inl rfl))⟩
  induction h with
  | num n l c h => intro g; rw [layX_num]; exact ⟨_, _, rfl, .inr (.inl (num_int h))⟩
  | var x l c h => intro g; rw [layX_var]; exact ⟨_, _, rfl, .inl (name_not h)⟩
  | idx x a l c h ha ih => intro g; rw [layX_idx]; exact ⟨_, _, rfl, .inl (name_not h)⟩
  | un o a l c h ha ih =>
    intro g
    rw [layX_un]
    refine ⟨_, _, rfl, ?_⟩
    have h := of_decide_eq_true (show decide _ = true from h)
    obtain rfl | rfl | rfl : o = 18 ∨ o = 19 ∨ o = 20 := by omega
    · exact .inr (.inr (.inr (.inl rfl)))
    · exact .inr (.inr (.inr (.inr (.inl rfl))))
    · exact .inr (.inr (.inr (.inr (.inr rfl))))
  | bin o a b l c h ha hb iha ihb =>
    intro g
    rw [layX_bin]
    obtain ⟨t, r, h1, h2⟩ := br _ a g (iha g)
    exact ⟨t, _, by rw [h1]; rfl, h2⟩
theorem hdX_not {t : List UInt8} (h : HdX t) : t ≠ [41] ∧ t ≠ [61] ∧ t ≠ [91] := by
  rcases h with ⟨h, -⟩ | h | rfl | rfl | rfl | rfl
  · refine ⟨?_, ?_, ?_⟩ <;> (rintro rfl; revert h; decide)
  · refine ⟨?_, ?_, ?_⟩ <;> (rintro rfl; revert h; decide)
  all_goals decide

/-! ### The same tokens, the same statements -/
theorem stop_of {t : List UInt8} {r : List (List UInt8)} (h : t = [59] ∨ t = [93] ∨ t = [123] ∨ t = [41] ∨ t = [44]) : Stop 1 (t :: r) := by
  rcases h with rfl | rfl | rfl | rfl | rfl <;> exact stop_tok (by decide) (by decide) _ _
theorem toks_g (e : XV) (h : RX e) (g : List UInt8) : toks (layX e g) = toks (layX e []) := toks_gap e h g []
theorem listC_inj : ∀ (es fs : List XV), (∀ e ∈ es, RX e) → (∀ e ∈ fs, RX e) → (∀ e ∈ es, In e) → (∀ e ∈ fs, In e) → ∀ r s : List (List UInt8), toks (layC es) ++ [41] :: r = toks (layC fs) ++ [41] :: s → smx es fs = true ∧ r = s
  | [], [], _, _, _, _, r, s, h => by simpa [layC, toks, smx] using h
  | [], f :: fs, _, _, _, _, r, s, h => by simp [layC, toks] at h
  | e :: es, [], _, _, _, _, r, s, h => by simp [layC, toks] at h
  | e :: es, f :: fs, h1, h2, h3, h4, r, s, h => by
    have r1 := h1 e (by simp)
    have r2 := h2 f (by simp)
    simp only [layC, toks_cons, toks_append, List.cons_append, List.append_assoc, List.cons.injEq, true_and] at h
    rw [toks_g e r1, toks_g f r2] at h
    have st : ∀ (gs : List XV) (q : List (List UInt8)), Stop 1 (toks (layC gs) ++ [41] :: q) := fun gs q => by
      cases gs with
      | nil => exact stop_of (by simp)
      | cons g gs => simp only [layC, toks_cons, List.cons_append]; exact stop_of (by simp)
    obtain ⟨k1, k2⟩ := tokens_inj r1 r2 (h3 e (by simp)) (h4 f (by simp)) (st es r) (st fs s) h
    obtain ⟨k3, k4⟩ := listC_inj es fs (fun a ha => h1 a (by simp [ha])) (fun a ha => h2 a (by simp [ha])) (fun a ha => h3 a (by simp [ha])) (fun a ha => h4 a (by simp [ha])) r s k2
    exact ⟨by simp [smx, k1, k3], k4⟩
theorem listA_inj (es fs : List XV) (h1 : ∀ e ∈ es, RX e) (h2 : ∀ e ∈ fs, RX e) (h3 : ∀ e ∈ es, In e) (h4 : ∀ e ∈ fs, In e) (r s : List (List UInt8)) (h : toks (layA es) ++ [41] :: r = toks (layA fs) ++ [41] :: s) : smx es fs = true ∧ r = s := by
  have st : ∀ (gs : List XV) (q : List (List UInt8)), Stop 1 (toks (layC gs) ++ [41] :: q) := fun gs q => by
    cases gs with
    | nil => exact stop_of (by simp)
    | cons g gs => simp only [layC, toks_cons, List.cons_append]; exact stop_of (by simp)
  have hd : ∀ (e : XV), RX e → ∀ q q' : List (List UInt8), toks (layX e []) ++ q ≠ [41] :: q' := fun e he q q' hh => by
    obtain ⟨t, r', e1, e2⟩ := layX_head e he []
    rw [e1] at hh
    simp only [toks_cons, List.cons_append, List.cons.injEq] at hh
    exact (hdX_not e2).1 hh.1
  cases es with
  | nil =>
    cases fs with
    | nil => simpa [layA, toks, smx] using h
    | cons f fs =>
      simp only [layA, toks_append, List.append_assoc] at h
      exact absurd h.symm (hd f (h2 f (by simp)) _ _)
  | cons e es =>
    cases fs with
    | nil =>
      simp only [layA, toks_append, List.append_assoc] at h
      exact absurd h (hd e (h1 e (by simp)) _ _)
    | cons f fs =>
      simp only [layA, toks_append, List.append_assoc] at h
      obtain ⟨k1, k2⟩ := tokens_inj (h1 e (by simp)) (h2 f (by simp)) (h3 e (by simp)) (h4 f (by simp)) (st es r) (st fs s) h
      obtain ⟨k3, k4⟩ := listC_inj es fs (fun a ha => h1 a (by simp [ha])) (fun a ha => h2 a (by simp [ha])) (fun a ha => h3 a (by simp [ha])) (fun a ha => h4 a (by simp [ha])) r s k2
      exact ⟨by simp [smx, k1, k3], k4⟩
/-- The kind, by the first two tokens. -/
def kindT : List (List UInt8) → Int
  | t :: u :: _ => if t = kIf then 2 else if t = kWhile then 3 else if t = kOutput then 4 else if t = kCall then 5 else if t = kSkip then 6 else if u = [91] then 1 else 0
  | _ => 0
theorem kw_all : ∀ t ∈ [kIf, kElse, kWhile, kOutput, kCall, kSkip], t ∈ kws6 := by decide
theorem layS_kind {s : SV} (h : RS s) (d : Nat) (r : List (List UInt8)) : kindT (toks (layS s d) ++ r) = s.k := by
  have nk : ∀ x, name6 x = true → x ≠ kIf ∧ x ≠ kWhile ∧ x ≠ kOutput ∧ x ≠ kCall ∧ x ≠ kSkip := fun x hx => by
    have := (name_not hx).2
    refine ⟨?_, ?_, ?_, ?_, ?_⟩ <;> (rintro rfl; exact this (kw_all _ (by simp)))
  have two : ∀ (t : List UInt8) (e : XV) (g : List UInt8) (q : Lay), RX e → ∃ u w, toks ((nl d, t) :: (layX e g ++ q)) ++ r = t :: u :: w := fun t e g q he => by
    obtain ⟨u, w, e1, -⟩ := layX_head e he g
    rw [e1]
    exact ⟨u, _, rfl⟩
  cases h with
  | assign x e l c h he =>
    obtain ⟨n1, n2, n3, n4, n5⟩ := nk x h
    rw [layS_assign]
    simp [toks_cons, kindT, n1, n2, n3, n4, n5, SV.k]
  | store x i e l c h hi he =>
    obtain ⟨n1, n2, n3, n4, n5⟩ := nk x h
    rw [layS_store]
    simp [toks_cons, kindT, n1, n2, n3, n4, n5, SV.k]
  | iff e ts us l c he ht hu =>
    rw [layS_iff]
    obtain ⟨u, w, e1⟩ := two kIf e [32] _ he
    rw [e1]
    rfl
  | wh e ts l c he ht =>
    rw [layS_wh]
    obtain ⟨u, w, e1⟩ := two kWhile e [32] _ he
    rw [e1]
    rfl
  | out e l c he =>
    rw [layS_out]
    obtain ⟨u, w, e1⟩ := two kOutput e [32] _ he
    rw [e1]
    rfl
  | call x es l c h he =>
    rw [layS_call]
    rfl
  | skip l c =>
    rw [layS_skip]
    rfl
/-- No Else behind. -/
def NoElse (r : List (List UInt8)) : Prop := ∀ r', r ≠ kElse :: r'
def EndB (r : List (List UInt8)) : Prop := r = [] ∨ ∃ r', r = [125] :: r'
theorem layS_first {s : SV} (h : RS s) (d : Nat) : ∃ t r, toks (layS s d) = t :: r ∧ t ≠ kElse ∧ t ≠ [125] := by
  have nk : ∀ x, name6 x = true → x ≠ kElse ∧ x ≠ [125] := fun x hx => ⟨by rintro rfl; exact (name_not hx).2 (kw_all _ (by simp)), by rintro rfl; revert hx; decide⟩
  cases h with
  | assign x e l c h he => rw [layS_assign]; exact ⟨_, _, rfl, (nk x h).1, (nk x h).2⟩
  | store x i e l c h hi he => rw [layS_store]; exact ⟨_, _, rfl, (nk x h).1, (nk x h).2⟩
  | iff e ts us l c he ht hu => rw [layS_iff]; exact ⟨_, _, rfl, (by decide : kIf ≠ kElse), (by decide : kIf ≠ [125])⟩
  | wh e ts l c he ht => rw [layS_wh]; exact ⟨_, _, rfl, (by decide : kWhile ≠ kElse), (by decide : kWhile ≠ [125])⟩
  | out e l c he => rw [layS_out]; exact ⟨_, _, rfl, (by decide : kOutput ≠ kElse), (by decide : kOutput ≠ [125])⟩
  | call x es l c h he => rw [layS_call]; exact ⟨_, _, rfl, (by decide : kCall ≠ kElse), (by decide : kCall ≠ [125])⟩
  | skip l c => rw [layS_skip]; exact ⟨_, _, rfl, (by decide : kSkip ≠ kElse), (by decide : kSkip ≠ [125])⟩
theorem layB_noElse {l : List SV} (h : ∀ s ∈ l, RS s) (d : Nat) {r : List (List UInt8)} (hr : EndB r) : NoElse (toks (layB l d) ++ r) := by
  cases l with
  | nil =>
    rcases hr with rfl | ⟨r', rfl⟩
    · intro r'; simp [layB, toks]
    · intro q; simp [layB, toks, kElse]
  | cons s l =>
    obtain ⟨t, q, e1, e2, -⟩ := layS_first (h s (by simp)) d
    intro r' e
    simp only [layB, toks_append, e1, List.cons_append, List.cons.injEq] at e
    exact e2 e.1
def InjB (N : Nat) : Prop := ∀ (l l' : List SV), ssz l ≤ N → (∀ s ∈ l, RS s) → (∀ s ∈ l', RS s) → inSs l = true → inSs l' = true → ∀ (d d' : Nat) (r r' : List (List UInt8)), EndB r → EndB r' → toks (layB l d) ++ r = toks (layB l' d') ++ r' → smy l l' = true ∧ r = r'
theorem stmt_inj {N : Nat} (ih : ∀ M, M < N → InjB M) {s s' : SV} (hz : ssz1 s ≤ N) (h : RS s) (h' : RS s') (hi : inS s = true) (hi' : inS s' = true) (d d' : Nat) (r r' : List (List UInt8)) (hr : NoElse r) (hr' : NoElse r') (he : toks (layS s d) ++ r = toks (layS s' d') ++ r') : smy1 s s' = true ∧ r = r' := by
  have hk := layS_kind h d r
  rw [he, layS_kind h' d' r'] at hk
  have ie := inS_es hi
  have ie' := inS_es hi'
  have it := inS_ts hi
  have it' := inS_ts hi'
  have iu := inS_us hi
  have iu' := inS_us hi'
  cases h with
  | assign x e l c hx hX =>
    cases h' <;> try (simp [SV.k] at hk)
    next x' e' l' c' hx' hX' =>
    rw [layS_assign, layS_assign] at he
    simp only [toks_cons, toks_append, List.cons_append, List.append_assoc, List.cons.injEq, true_and] at he
    rw [toks_g e hX, toks_g e' hX'] at he
    obtain ⟨k1, k2⟩ := tokens_inj hX hX' (ie e (by simp [SV.es])) (ie' e' (by simp [SV.es])) (stop_of (by simp)) (stop_of (by simp)) he.2
    simp only [toks, List.map_nil, List.nil_append, List.cons.injEq, true_and] at k2
    exact ⟨by simp [smy1, smy, smx, k1, he.1], k2⟩
  | store x i e l c hx hI hX =>
    cases h' <;> try (simp [SV.k] at hk)
    next x' i' e' l' c' hx' hI' hX' =>
    rw [layS_store, layS_store] at he
    simp only [toks_cons, toks_append, List.cons_append, List.append_assoc, List.cons.injEq, true_and] at he
    obtain ⟨k1, k2⟩ := tokens_inj hI hI' (ie i (by simp [SV.es])) (ie' i' (by simp [SV.es])) (stop_of (by simp)) (stop_of (by simp)) he.2
    simp only [List.cons.injEq, true_and] at k2
    rw [toks_g e hX, toks_g e' hX'] at k2
    obtain ⟨k3, k4⟩ := tokens_inj hX hX' (ie e (by simp [SV.es])) (ie' e' (by simp [SV.es])) (stop_of (by simp)) (stop_of (by simp)) k2
    simp only [toks, List.map_nil, List.nil_append, List.cons.injEq, true_and] at k4
    exact ⟨by simp [smy1, smy, smx, k1, k3, he.1], k4⟩
  | iff e ts us l c hX ht hu =>
    cases h' <;> try (simp [SV.k] at hk)
    next e' ts' us' l' c' hX' ht' hu' =>
    rw [layS_iff, layS_iff] at he
    simp only [toks_cons, toks_append, List.cons_append, List.append_assoc, List.cons.injEq, true_and] at he
    rw [toks_g e hX, toks_g e' hX'] at he
    obtain ⟨k1, k2⟩ := tokens_inj hX hX' (ie e (by simp [SV.es])) (ie' e' (by simp [SV.es])) (stop_of (by simp)) (stop_of (by simp)) he
    simp only [List.cons.injEq, true_and] at k2
    simp only [ssz1] at hz
    obtain ⟨k3, k4⟩ := ih (ssz ts) (by omega) ts ts' (Nat.le_refl _) ht ht' it it' _ _ _ _ (Or.inr ⟨_, rfl⟩) (Or.inr ⟨_, rfl⟩) k2
    simp only [List.cons.injEq, true_and] at k4
    cases us with
    | nil =>
      cases us' with
      | nil =>
        simp only [List.isEmpty_nil, if_true, toks, List.map_nil, List.nil_append] at k4
        exact ⟨by simp [smy1, smy, smx, k1, k3], k4⟩
      | cons u us' =>
        exfalso
        simp [toks_cons] at k4
        exact hr _ k4
    | cons v us =>
      cases us' with
      | nil =>
        exfalso
        simp [toks_cons] at k4
        exact hr' _ k4.symm
      | cons u us' =>
        simp only [List.isEmpty_cons, Bool.false_eq_true, if_false, toks_cons, toks_append, List.cons_append, List.append_assoc, List.cons.injEq, true_and] at k4
        obtain ⟨k5, k6⟩ := ih (ssz (v :: us)) (by omega) (v :: us) (u :: us') (Nat.le_refl _) hu hu' iu iu' _ _ _ _ (Or.inr ⟨_, rfl⟩) (Or.inr ⟨_, rfl⟩) k4
        simp only [toks, List.map_nil, List.nil_append, List.cons.injEq, true_and] at k6
        exact ⟨by simp [smy1, smx, k1, k3, k5], k6⟩
  | wh e ts l c hX ht =>
    cases h' <;> try (simp [SV.k] at hk)
    next e' ts' l' c' hX' ht' =>
    rw [layS_wh, layS_wh] at he
    simp only [toks_cons, toks_append, List.cons_append, List.append_assoc, List.cons.injEq, true_and] at he
    rw [toks_g e hX, toks_g e' hX'] at he
    obtain ⟨k1, k2⟩ := tokens_inj hX hX' (ie e (by simp [SV.es])) (ie' e' (by simp [SV.es])) (stop_of (by simp)) (stop_of (by simp)) he
    simp only [List.cons.injEq, true_and] at k2
    simp only [ssz1] at hz
    obtain ⟨k3, k4⟩ := ih (ssz ts) (by omega) ts ts' (Nat.le_refl _) ht ht' it it' _ _ _ _ (Or.inr ⟨_, rfl⟩) (Or.inr ⟨_, rfl⟩) k2
    simp only [toks, List.map_nil, List.nil_append, List.cons.injEq, true_and] at k4
    exact ⟨by simp [smy1, smy, smx, k1, k3], k4⟩
  | out e l c hX =>
    cases h' <;> try (simp [SV.k] at hk)
    next e' l' c' hX' =>
    rw [layS_out, layS_out] at he
    simp only [toks_cons, toks_append, List.cons_append, List.append_assoc, List.cons.injEq, true_and] at he
    rw [toks_g e hX, toks_g e' hX'] at he
    obtain ⟨k1, k2⟩ := tokens_inj hX hX' (ie e (by simp [SV.es])) (ie' e' (by simp [SV.es])) (stop_of (by simp)) (stop_of (by simp)) he
    simp only [toks, List.map_nil, List.nil_append, List.cons.injEq, true_and] at k2
    exact ⟨by simp [smy1, smy, smx, k1], k2⟩
  | call x es l c hx hX =>
    cases h' <;> try (simp [SV.k] at hk)
    next x' es' l' c' hx' hX' =>
    rw [layS_call, layS_call] at he
    simp only [toks_cons, toks_append, List.cons_append, List.append_assoc, List.cons.injEq, true_and] at he
    obtain ⟨k1, k2⟩ := listA_inj es es' hX hX' ie ie' _ _ he.2
    simp only [toks, List.map_nil, List.nil_append, List.cons.injEq, true_and] at k2
    exact ⟨by simp [smy1, smy, k1, he.1], k2⟩
  | skip l c =>
    cases h' <;> try (simp [SV.k] at hk)
    next l' c' =>
    rw [layS_skip, layS_skip] at he
    simp only [toks, List.map_cons, List.map_nil, List.cons_append, List.nil_append, List.cons.injEq, true_and] at he
    exact ⟨by simp [smy1, smy, smx], he⟩
/-- Statements with the same tokens are the same. -/
theorem block_inj (N : Nat) : InjB N := by
  induction N using Nat.strongRecOn with
  | ind N ih =>
  intro l
  induction l with
  | nil =>
    intro l' hz h h' hi hi' d d' r r' hr hr' he
    cases l' with
    | nil => exact ⟨by simp [smy], by simpa [layB, toks] using he⟩
    | cons s l' =>
      exfalso
      obtain ⟨t, q, e1, -, e2⟩ := layS_first (h' s (by simp)) d'
      simp only [layB, toks_append, e1] at he
      rcases hr with rfl | ⟨r0, rfl⟩
      · simp [toks] at he
      · simp only [toks, List.map_nil, List.nil_append, List.cons_append, List.cons.injEq] at he
        exact e2 he.1.symm
  | cons s l ihl =>
    intro l' hz h h' hi hi' d d' r r' hr hr' he
    cases l' with
    | nil =>
      exfalso
      obtain ⟨t, q, e1, -, e2⟩ := layS_first (h s (by simp)) d
      simp only [layB, toks_append, e1] at he
      rcases hr' with rfl | ⟨r0, rfl⟩
      · simp [toks] at he
      · simp only [toks, List.map_nil, List.nil_append, List.cons_append, List.cons.injEq] at he
        exact e2 he.1
    | cons s' l' =>
      simp only [ssz] at hz
      unfold inSs at hi hi'
      rw [Bool.and_eq_true] at hi hi'
      simp only [layB, toks_append, List.append_assoc] at he
      obtain ⟨k1, k2⟩ := stmt_inj (N := N) ih (by omega) (h s (by simp)) (h' s' (by simp)) hi.1 hi'.1 d d' _ _ (layB_noElse (fun a ha => h a (by simp [ha])) d hr) (layB_noElse (fun a ha => h' a (by simp [ha])) d' hr') he
      obtain ⟨k3, k4⟩ := ihl l' (by omega) (fun a ha => h a (by simp [ha])) (fun a ha => h' a (by simp [ha])) hi.2 hi'.2 d d' r r' hr hr' k2
      exact ⟨by simp [smy, k1, k3], k4⟩
end

section
open Go.RowKit

def kPublic : List UInt8 := [112, 117, 98, 108, 105, 99]
def kSecret : List UInt8 := [115, 101, 99, 114, 101, 116]
def kVar : List UInt8 := [118, 97, 114]
def kArray : List UInt8 := [97, 114, 114, 97, 121]
def kProc : List UInt8 := [112, 114, 111, 99]
def kMain : List UInt8 := [109, 97, 105, 110]
def kIn : List UInt8 := [105, 110]
/-- A number of a range. -/
def sint (z : Int) (g : List UInt8) : Lay := if z < 0 then [(g, [45]), ([], Lib.decDigits z.natAbs)] else [(g, Lib.decDigits z.toNat)]
/-- Names with commas ahead; with commas between. -/
def layM : List (List UInt8) → Lay
  | [] => []
  | x :: r => ([], [44]) :: ([32], x) :: layM r
def layN : List (List UInt8) → Lay
  | [] => []
  | x :: r => ([], x) :: layM r
def layD (d : DV) : Lay :=
  if d.k = 0 ∨ d.k = 1 then (nl 0, if d.k = 0 then kPublic else kSecret) :: ([32], d.x) :: ([32], kIn) :: ([32], [91]) :: (sint d.lo [] ++ ([], [44]) :: (sint d.hi [32] ++ [([], [93]), ([], [59])]))
  else if d.k = 2 then [(nl 0, kVar), ([32], d.x), ([], [59])]
  else if d.k = 3 then [(nl 0, kArray), ([32], d.x), ([], [91]), ([], numT d.sz), ([], [93]), ([], [59])]
  else (nl 0, kProc) :: ([32], d.x) :: ([], [40]) :: (layN d.ps ++ ([], [41]) :: ([32], [123]) :: (layB d.body 1 ++ [(nl 0, [125])]))
def layDs : List DV → Lay
  | [] => []
  | d :: r => layD d ++ layDs r
def layP (ds : List DV) (mn : List SV) : Lay := layDs ds ++ (nl 0, kMain) :: ([32], [123]) :: (layB mn 1 ++ [(nl 0, [125])])
def inD (d : DV) : Bool := decide (d.sz ≤ 9223372036854775807) && inSs d.body

/-! ### Numbers -/
def valD (l : List UInt8) : Nat := l.foldl (fun n c => 10 * n + (c - 48).toNat) 0
theorem dec_valD (u : Nat) : valD (Lib.decDigits u) = u := by
  induction u using Nat.strongRecOn with
  | ind u ih =>
    rw [Lib.decDigits]
    have e : ∀ d, d < 10 → (UInt8.ofNat (48 + d) - 48).toNat = d := fun d hd => by
      rw [UInt8.toNat_sub, UInt8.toNat_ofNat']
      show (2 ^ 8 - 48 + (48 + d) % 2 ^ 8) % 2 ^ 8 = d
      omega
    split
    · next h1 =>
      unfold valD
      simp only [List.foldl_cons, List.foldl_nil]
      rw [e u h1]
      omega
    · have h2 := ih (u / 10) (by omega)
      unfold valD at h2 ⊢
      rw [List.foldl_append, h2]
      simp only [List.foldl_cons, List.foldl_nil]
      rw [e _ (by omega)]
      omega
theorem dec_inj {u v : Nat} (h : Lib.decDigits u = Lib.decDigits v) : u = v := by rw [← dec_valD u, h, dec_valD v]
theorem num_inj {m n : Int} (h : num6 m = true) (h' : num6 n = true) (hm : m ≤ 9223372036854775807) (hn : n ≤ 9223372036854775807) (e : numT m = numT n) : m = n := by
  rw [← num_val h hm, e, num_val h' hn]
theorem dec_minus (u : Nat) : Lib.decDigits u ≠ [45] := fun h => by
  have := dec_digits u 45 (by rw [h]; simp)
  exact absurd this (by decide)
theorem sint_inj {z y : Int} {g g' : List UInt8} {r s : List (List UInt8)} (h : toks (sint z g) ++ r = toks (sint y g') ++ s) : z = y ∧ r = s := by
  unfold sint at h
  by_cases hz : z < 0 <;> by_cases hy : y < 0
  · rw [if_pos hz, if_pos hy] at h
    simp only [toks, List.map_cons, List.map_nil, List.cons_append, List.nil_append, List.cons.injEq, true_and] at h
    have := dec_inj h.1
    exact ⟨by omega, h.2⟩
  · rw [if_pos hz, if_neg hy] at h
    simp only [toks, List.map_cons, List.map_nil, List.cons_append, List.nil_append, List.cons.injEq] at h
    exact absurd h.1.symm (dec_minus _)
  · rw [if_neg hz, if_pos hy] at h
    simp only [toks, List.map_cons, List.map_nil, List.cons_append, List.nil_append, List.cons.injEq] at h
    exact absurd h.1 (dec_minus _)
  · rw [if_neg hz, if_neg hy] at h
    simp only [toks, List.map_cons, List.map_nil, List.cons_append, List.nil_append, List.cons.injEq] at h
    have := dec_inj h.1
    exact ⟨by omega, h.2⟩
theorem layM_inj : ∀ (ps qs : List (List UInt8)) (r s : List (List UInt8)), toks (layM ps) ++ [41] :: r = toks (layM qs) ++ [41] :: s → ps = qs ∧ r = s
  | [], [], r, s, h => by simpa [layM, toks] using h
  | [], q :: qs, r, s, h => by simp [layM, toks] at h
  | p :: ps, [], r, s, h => by simp [layM, toks] at h
  | p :: ps, q :: qs, r, s, h => by
    simp only [layM, toks_cons, List.cons_append, List.cons.injEq, true_and] at h
    obtain ⟨k1, k2⟩ := layM_inj ps qs r s h.2
    exact ⟨by rw [h.1, k1], k2⟩
theorem layN_inj (ps qs : List (List UInt8)) (hp : ∀ x ∈ ps, name6 x = true) (hq : ∀ x ∈ qs, name6 x = true) (r s : List (List UInt8)) (h : toks (layN ps) ++ [41] :: r = toks (layN qs) ++ [41] :: s) : ps = qs ∧ r = s := by
  have nn : ∀ x, name6 x = true → x ≠ [41] := fun x hx => by rintro rfl; revert hx; decide
  cases ps with
  | nil =>
    cases qs with
    | nil => simpa [layN, toks] using h
    | cons q qs =>
      simp only [layN, toks, List.map_cons, List.cons_append, List.map_nil, List.nil_append, List.cons.injEq] at h
      exact absurd h.1.symm (nn q (hq q (by simp)))
  | cons p ps =>
    cases qs with
    | nil =>
      simp only [layN, toks, List.map_cons, List.cons_append, List.map_nil, List.nil_append, List.cons.injEq] at h
      exact absurd h.1 (nn p (hp p (by simp)))
    | cons q qs =>
      simp only [layN, toks_cons, List.cons_append, List.cons.injEq] at h
      obtain ⟨k1, k2⟩ := layM_inj ps qs r s h.2
      exact ⟨by rw [h.1, k1], k2⟩
/-- The kind, by the first token. -/
def kindD : List (List UInt8) → Int
  | t :: _ => if t = kPublic then 0 else if t = kSecret then 1 else if t = kVar then 2 else if t = kArray then 3 else if t = kProc then 4 else -1
  | _ => -1
theorem rgd_kind {d : DV} (h : rgd1 d = true) : (d.k = 0 ∨ d.k = 1 ∨ d.k = 2 ∨ d.k = 3 ∨ d.k = 4) ∧ name6 d.x = true ∧ num6 d.sz = true ∧ (∀ x ∈ d.ps, name6 x = true) ∧ (∀ s ∈ d.body, RS s) ∧
    (d.k = 0 ∨ d.k = 1 → d.sz = 0 ∧ d.ps = [] ∧ d.body = []) ∧ (d.k = 2 → d.lo = 0 ∧ d.hi = 0 ∧ d.sz = 0 ∧ d.ps = [] ∧ d.body = []) ∧ (d.k = 3 → d.lo = 0 ∧ d.hi = 0 ∧ d.ps = [] ∧ d.body = []) ∧ (d.k = 4 → d.lo = 0 ∧ d.hi = 0 ∧ d.sz = 0) := by
  unfold rgd1 at h
  rw [Bool.and_eq_true, Bool.and_eq_true, List.all_eq_true] at h
  obtain ⟨h1, h2, h3⟩ := h
  obtain ⟨h4, h5, h6⟩ := of_decide_eq_true (show decide _ = true from h3)
  have e : ∀ {α : Type} {l : List α}, l.length = 0 → l = [] := fun h => List.eq_nil_of_length_eq_zero h
  refine ⟨by omega, h4, h5, h1, rs_all _ h2, fun h => ?_, fun h => ?_, fun h => ?_, fun h => ?_⟩
  · exact ⟨by omega, e (by omega), e (by omega)⟩
  · exact ⟨by omega, by omega, by omega, e (by omega), e (by omega)⟩
  · exact ⟨by omega, by omega, e (by omega), e (by omega)⟩
  · exact ⟨by omega, by omega, by omega⟩
theorem layD_kind {d : DV} (h : rgd1 d = true) (r : List (List UInt8)) : kindD (toks (layD d) ++ r) = d.k := by
  obtain ⟨h1, -⟩ := rgd_kind h
  unfold layD
  rcases h1 with h1 | h1 | h1 | h1 | h1 <;> rw [h1] <;> simp [toks_cons, kindD] <;> decide
theorem decl_inj {d d' : DV} (h : rgd1 d = true) (h' : rgd1 d' = true) (hi : inD d = true) (hi' : inD d' = true) {r r' : List (List UInt8)} (he : toks (layD d) ++ r = toks (layD d') ++ r') : smd1 d d' = true ∧ r = r' := by
  have hk := layD_kind h r
  rw [he, layD_kind h' r'] at hk
  obtain ⟨a1, a2, a3, a4, a5, a6, a7, a8, a9⟩ := rgd_kind h
  obtain ⟨b1, b2, b3, b4, b5, b6, b7, b8, b9⟩ := rgd_kind h'
  unfold inD at hi hi'
  rw [Bool.and_eq_true] at hi hi'
  have hi1 := of_decide_eq_true hi.1
  have hi2 := of_decide_eq_true hi'.1
  have fin : ∀ {d d' : DV}, d.k = d'.k → d.x = d'.x → d.lo = d'.lo → d.hi = d'.hi → d.sz = d'.sz → d.ps = d'.ps → smy d.body d'.body = true → smd1 d d' = true := fun e1 e2 e3 e4 e5 e6 e7 => by simp [smd1, e1, e2, e3, e4, e5, e6, e7]
  unfold layD at he
  rcases a1 with a1 | a1 | a1 | a1 | a1
  · have b1 : d'.k = 0 := by omega
    simp only [a1, b1, true_or, if_true, toks_cons, toks_append, List.cons_append, List.append_assoc, List.cons.injEq, true_and] at he
    obtain ⟨k1, k2⟩ := sint_inj he.2
    simp only [List.cons.injEq, true_and] at k2
    obtain ⟨k3, k4⟩ := sint_inj k2
    simp only [toks, List.map_nil, List.nil_append, List.cons.injEq, true_and] at k4
    obtain ⟨c1, c2, c3⟩ := a6 (.inl a1)
    obtain ⟨c4, c5, c6⟩ := b6 (.inl b1)
    exact ⟨fin (by omega) he.1 k1 k3 (by omega) (by rw [c2, c5]) (by rw [c3, c6]; rfl), k4⟩
  · have b1 : d'.k = 1 := by omega
    simp only [a1, b1, or_true, if_true, toks_cons, toks_append, List.cons_append, List.append_assoc, List.cons.injEq, true_and] at he
    obtain ⟨k1, k2⟩ := sint_inj he.2
    simp only [List.cons.injEq, true_and] at k2
    obtain ⟨k3, k4⟩ := sint_inj k2
    simp only [toks, List.map_nil, List.nil_append, List.cons.injEq, true_and] at k4
    obtain ⟨c1, c2, c3⟩ := a6 (.inr a1)
    obtain ⟨c4, c5, c6⟩ := b6 (.inr b1)
    exact ⟨fin (by omega) he.1 k1 k3 (by omega) (by rw [c2, c5]) (by rw [c3, c6]; rfl), k4⟩
  · have b1 : d'.k = 2 := by omega
    rw [if_neg (by omega), if_pos a1, if_neg (by omega), if_pos b1] at he
    simp only [toks, List.map_cons, List.map_nil, List.cons_append, List.nil_append, List.cons.injEq, true_and] at he
    obtain ⟨c1, c2, c3, c4, c5⟩ := a7 a1
    obtain ⟨e1, e2, e3, e4, e5⟩ := b7 b1
    exact ⟨fin (by omega) he.1 (by omega) (by omega) (by omega) (by rw [c4, e4]) (by rw [c5, e5]; rfl), he.2⟩
  · have b1 : d'.k = 3 := by omega
    rw [if_neg (by omega), if_neg (by omega), if_pos a1, if_neg (by omega), if_neg (by omega), if_pos b1] at he
    simp only [toks, List.map_cons, List.map_nil, List.cons_append, List.nil_append, List.cons.injEq, true_and] at he
    obtain ⟨c1, c2, c4, c5⟩ := a8 a1
    obtain ⟨e1, e2, e4, e5⟩ := b8 b1
    exact ⟨fin (by omega) he.1 (by omega) (by omega) (num_inj a3 b3 hi1 hi2 he.2.1) (by rw [c4, e4]) (by rw [c5, e5]; rfl), he.2.2⟩
  · have b1 : d'.k = 4 := by omega
    rw [if_neg (by omega), if_neg (by omega), if_neg (by omega), if_neg (by omega), if_neg (by omega), if_neg (by omega)] at he
    simp only [toks_cons, toks_append, List.cons_append, List.append_assoc, List.cons.injEq, true_and] at he
    obtain ⟨k1, k2⟩ := layN_inj _ _ a4 b4 _ _ he.2
    simp only [List.cons.injEq, true_and] at k2
    obtain ⟨k3, k4⟩ := block_inj (ssz d.body) d.body d'.body (Nat.le_refl _) a5 b5 hi.2 hi'.2 _ _ _ _ (Or.inr ⟨_, rfl⟩) (Or.inr ⟨_, rfl⟩) k2
    simp only [toks, List.map_nil, List.nil_append, List.cons.injEq, true_and] at k4
    obtain ⟨c1, c2, c3⟩ := a9 a1
    obtain ⟨e1, e2, e3⟩ := b9 b1
    exact ⟨fin (by omega) he.1 (by omega) (by omega) (by omega) k1 k3, k4⟩
theorem decls_inj : ∀ (ds es : List DV), rgd ds = true → rgd es = true → ds.all inD = true → es.all inD = true → ∀ r s : List (List UInt8), toks (layDs ds) ++ kMain :: r = toks (layDs es) ++ kMain :: s → smd ds es = true ∧ r = s
  | [], [], _, _, _, _, r, s, h => by simpa [layDs, toks, smd] using h
  | [], e :: es, _, h2, _, _, r, s, h => by
    unfold rgd at h2
    rw [List.all_eq_true] at h2
    have hr := h2 e (by simp)
    have hk := layD_kind hr (toks (layDs es) ++ kMain :: s)
    simp only [layDs, toks_append, List.append_assoc] at h
    rw [← h] at hk
    obtain ⟨h1, -⟩ := rgd_kind hr
    have : kindD (toks [] ++ kMain :: r) = -1 := rfl
    rw [this] at hk
    omega
  | d :: ds, [], h1, _, _, _, r, s, h => by
    unfold rgd at h1
    rw [List.all_eq_true] at h1
    have hr := h1 d (by simp)
    have hk := layD_kind hr (toks (layDs ds) ++ kMain :: r)
    simp only [layDs, toks_append, List.append_assoc] at h
    rw [h] at hk
    obtain ⟨h1, -⟩ := rgd_kind hr
    have : kindD (toks [] ++ kMain :: s) = -1 := rfl
    rw [this] at hk
    omega
  | d :: ds, e :: es, h1, h2, h3, h4, r, s, h => by
    unfold rgd at h1 h2
    simp only [List.all_cons, Bool.and_eq_true] at h1 h2 h3 h4
    simp only [layDs, toks_append, List.append_assoc] at h
    obtain ⟨k1, k2⟩ := decl_inj h1.1 h2.1 h3.1 h4.1 h
    obtain ⟨k3, k4⟩ := decls_inj ds es h1.2 h2.2 h3.2 h4.2 r s k2
    exact ⟨by simp [smd, k1, k3], k4⟩
/-- Programs with the same tokens are the same. -/
theorem prog_inj {ds es : List DV} {mn mm : List SV} (h : rgd ds = true) (h' : rgd es = true) (hm : rgs mn = true) (hm' : rgs mm = true) (i : ds.all inD = true) (i' : es.all inD = true) (im : inSs mn = true) (im' : inSs mm = true) (he : toks (layP ds mn) = toks (layP es mm)) : (smd ds es && smy mn mm) = true := by
  unfold layP at he
  simp only [toks_append, toks_cons] at he
  obtain ⟨k1, k2⟩ := decls_inj ds es h h' i i' _ _ he
  simp only [List.cons.injEq, true_and] at k2
  obtain ⟨k3, -⟩ := block_inj (ssz mn) mn mm (Nat.le_refl _) (rs_all _ hm) (rs_all _ hm') im im' _ _ _ _ (Or.inr ⟨_, rfl⟩) (Or.inr ⟨_, rfl⟩) k2
  rw [k1, k3]
  rfl
end
end Go.Proofs.YtejifkeeihkcjaaDoor
